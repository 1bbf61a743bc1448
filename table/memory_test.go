package table_test

import (
	"math/rand/v2"
	"slices"
	"testing"

	"spadille/api"
	"spadille/table"
)

// results calls all functions and returns the lists that they return, the others as one list.
// Pairs are returned as lists that share their memory.
func results(x table.Table, row []int, lane, upper int) [][]int {
	run, _ := table.Run(x, row)
	unsorted, _ := table.Unsorted(x)
	outcomes, _ := table.Outcomes(x)
	idle, _ := table.Idle(x)
	needed, _ := table.Needed(x)
	layers, _ := table.Layers(x)
	all := append(slices.Concat(outcomes, layers), run, unsorted, idle, needed)
	finish, _ := table.Finish(x)
	for i := range finish {
		all = append(all, finish[i][:])
	}
	least, most, _ := table.Place(x, lane)
	others := list(int(table.Check(x)), int(table.Fails(x, row)), least, most)
	sorts, _ := table.Sorts(x)
	merges, _ := table.Merges(x, upper)
	for _, yes := range []bool{sorts, merges} {
		if yes {
			others = append(others, 1)
		} else {
			others = append(others, 0)
		}
	}
	return append(all, others)
}

// R4: no argument is changed, also not behind its end, and results share no memory: what is done to one shows in no other.
func TestMemory(t *testing.T) {
	r := rand.New(rand.NewPCG(7, 40))
	for i := range 600 {
		plain := anyTable(r)
		if i%2 == 0 {
			plain = sortingTable(r)
		}
		pairs := append(slices.Clone(plain.Comparators), [2]int{77, 77}, [2]int{77, 77})
		x := of(plain.Lanes, pairs[:len(plain.Comparators)]...)
		numbers := append(randomRow(r, plain.Lanes), 77, 77)
		row := numbers[:plain.Lanes]
		pairsBefore, numbersBefore := slices.Clone(pairs), slices.Clone(numbers)
		lane, upper := r.IntN(plain.Lanes), r.IntN(plain.Lanes+1)
		all := results(x, row, lane, upper)
		var kept [][]int
		for _, l := range all {
			kept = append(kept, slices.Clone(l))
		}
		for i, l := range all {
			for k := range l {
				l[k] = -1 - i
			}
		}
		for i, l := range all {
			if slices.ContainsFunc(l, func(n int) bool { return n != -1-i }) {
				t.Fatalf("%v, %v: results share memory", plain, row)
			}
		}
		if !slices.Equal(pairs, pairsBefore) || !slices.Equal(numbers, numbersBefore) {
			t.Fatalf("%v, %v: arguments are changed", plain, row)
		}
		if again := results(x, row, lane, upper); !equal(kept, again) {
			t.Fatalf("%v, %v: %v, and then %v", plain, row, kept, again)
		}
	}
}

// R4: what is appended to one list of a result shows in no other.
func TestMemoryBehind(t *testing.T) {
	for _, x := range []table.Table{of(7), tableC(), bubbles(7)} {
		for _, all := range [][][]int{mustOutcomes(t, x), mustLayers(t, x)} {
			var kept [][]int
			for _, l := range all {
				kept = append(kept, slices.Clone(l))
			}
			for _, l := range all {
				_ = append(l, -1)
			}
			if !equal(all, kept) {
				t.Errorf("%v: %v became %v", x, kept, all)
			}
		}
	}
}

// R3: nil and a list without elements are the same.
func TestNil(t *testing.T) {
	for lanes := 1; lanes <= 7; lanes++ {
		empty := table.Table{Lanes: lanes, Comparators: [][2]int{}}
		row := make([]int, lanes)
		if a, b := results(of(lanes), row, 0, 0), results(empty, row, 0, 0); !equal(a, b) {
			t.Errorf("%d lanes: %v and %v", lanes, a, b)
		}
		for _, row := range [][]int{nil, {}} {
			l, e := table.Run(empty, row)
			if f := table.Fails(empty, row); len(l) != 0 || e != api.ErrShape || f != api.ErrShape {
				t.Errorf("%d lanes: %v %d, %d", lanes, l, e, f)
			}
		}
	}
	if e := table.Check(table.Table{}); e != api.ErrRange {
		t.Errorf("Check of no table: %d", e)
	}
}

// P1: several callers at once do not disturb each other, and equal arguments have equal results.
func TestAtOnce(t *testing.T) {
	x, row := behind(tableC(), [2]int{1, 2}), list(4, -1, 4, 0)
	want := results(x, row, 2, 2)
	done := make(chan bool)
	for range 8 {
		go func() {
			same := true
			for range 50 {
				same = same && equal(results(x, row, 2, 2), want)
			}
			done <- same
		}()
	}
	for range 8 {
		if !<-done {
			t.Error("results differ from call to call")
		}
	}
}
