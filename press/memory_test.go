package press_test

import (
	"math/rand/v2"
	"slices"
	"testing"

	"spadille/api"
	"spadille/press"
)

// roomy returns a list with more memory behind its end, and all of that memory.
func roomy[T any](l []T, more T) (given, memory []T) {
	memory = append(slices.Clone(l), more, more, more)
	return memory[:len(l)], memory
}

// roomyTable does so with a table and each of its lists.
func roomyTable(table [][]int) (given, memory [][]int) {
	rows := [][]int{}
	for _, l := range table {
		row, all := roomy(l, 77)
		rows = append(rows, row)
		memory = append(memory, all)
	}
	given, _ = roomy(rows, list(77))
	return given, memory
}

// lists calls all functions and returns the lists that they return.
func lists(table [][]int, measures []int, seen []press.Seen) [][]int {
	groups, _ := press.Groups(table, measures)
	differ, _ := press.Differ(table, 0, len(table)-1)
	idle, _ := press.Idle(table)
	fewest, _ := press.Fewest(table)
	from, _ := press.From(table, seen)
	needed, _ := press.Needed(table)
	for i := range needed {
		groups = append(groups, needed[i][:])
	}
	press.Check(table)
	a, b, _ := press.Apart(table, measures)
	count, _ := press.Count(table)
	next, _ := press.Next(table, seen)
	deep, _ := press.Deep(table)
	return append(groups, differ, idle, fewest, from, list(a, b, count, next, deep))
}

// clones returns new memory with the same lists.
func clones(l [][]int) [][]int {
	all := [][]int{}
	for _, x := range l {
		all = append(all, slices.Clone(x))
	}
	return all
}

// R4: no argument is changed, also not behind its end, and results share no memory: what is done to one shows in no other.
func TestMemory(t *testing.T) {
	r := rand.New(rand.NewPCG(6, 40))
	for range 1000 {
		plain := toldTable(r)
		table, m1 := roomyTable(plain)
		measures, m2 := roomy(randomMeasures(r, plain), 77)
		seen, m3 := roomy(randomSeen(r, plain), press.Seen{Measure: 77, Value: 77})
		before := append(clones(m1), slices.Clone(m2))
		seenBefore := slices.Clone(m3)
		all := lists(table, measures, seen)
		kept := clones(all)
		for i, l := range all {
			for k := range l {
				l[k] = -1 - i
			}
			_ = append(l, -1)
		}
		for i, l := range all {
			if slices.ContainsFunc(l, func(n int) bool { return n != -1-i }) {
				t.Fatalf("%v, %v, %v: results share memory", plain, measures, seen)
			}
		}
		if !equal(before, append(clones(m1), m2)) || !slices.Equal(seenBefore, m3) || !equal(table, plain) {
			t.Fatalf("%v, %v, %v: arguments are changed", plain, measures, seen)
		}
		if again := lists(table, measures, seen); !equal(kept, again) {
			t.Fatalf("%v, %v, %v: %v, and then %v", plain, measures, seen, kept, again)
		}
	}
}

// R3: nil and a list without elements are the same.
func TestNil(t *testing.T) {
	for _, table := range [][][]int{nil, {}} {
		errors, more := answers(table, nil, 0, 1, nil)
		if more || slices.ContainsFunc(errors, func(e api.Errno) bool { return e != api.ErrEmpty }) {
			t.Errorf("errors are %v", errors)
		}
	}
	for _, table := range [][][]int{{nil}, {{}}, {nil, {}}, {{}, nil}} {
		if e := press.Check(table); e != api.OK {
			t.Errorf("Check of %v: %d", table, e)
		}
	}
	for _, l := range [][]int{nil, {}} {
		if x := mustGroups(t, tableU(), l); !equal(x, [][]int{{0, 1, 2}}) {
			t.Errorf("Groups: %v", x)
		}
	}
	for _, seen := range [][]press.Seen{nil, {}} {
		if x := mustFrom(t, tableU(), seen); !slices.Equal(x, list(0, 1, 2)) {
			t.Errorf("From: %v", x)
		}
	}
}

// P1: several callers at once do not disturb each other, and equal arguments have equal results.
func TestAtOnce(t *testing.T) {
	table := randomTable(rand.New(rand.NewPCG(6, 1)), 8, 8, 2)
	measures, seen := list(1, 4, 5), []press.Seen{{Measure: 3, Value: 1}}
	want := lists(table, measures, seen)
	done := make(chan bool)
	for range 8 {
		go func() {
			same := true
			for range 50 {
				same = same && equal(lists(table, measures, seen), want)
			}
			done <- same
		}()
	}
	for range 8 {
		if !<-done {
			t.Error("results differ from call to call")
		}
	}
}
