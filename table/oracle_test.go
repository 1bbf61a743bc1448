package table_test

import (
	"math/rand/v2"
	"slices"
	"testing"

	"spadille/api"
	"spadille/table"
)

// compare compares all functions of a table with the definitions, over rows that behave in each way.
func compare(t *testing.T, x table.Table, rows [][]int) {
	t.Helper()
	compareRuns(t, x, rows)
	compareSorts(t, x, rows)
	compareOutcomes(t, x)
	compareIdle(t, x, rows)
	compareLayers(t, x)
	comparePlaces(t, x)
	compareMerges(t, x, rows)
}

// compareRuns compares Run and Fails with the definitions.
func compareRuns(t *testing.T, x table.Table, rows [][]int) {
	t.Helper()
	for _, row := range rows {
		want, _ := ran(x, row)
		if l := mustRun(t, x, row); !slices.Equal(l, want) {
			t.Fatalf("Run of %v, %v: %v, want %v", x, row, l, want)
		}
		e := api.OK
		if isSorted(want) {
			e = api.ErrProof
		}
		if f := table.Fails(x, row); f != e {
			t.Fatalf("Fails of %v, %v: %d, want %d", x, row, f, e)
		}
	}
}

// compareSorts compares Sorts and Unsorted with the definitions.
func compareSorts(t *testing.T, x table.Table, rows [][]int) {
	t.Helper()
	want := sortsAll(x, rows)
	if sorts := mustSorts(t, x); sorts != want {
		t.Fatalf("Sorts of %v: %v", x, sorts)
	}
	l, e := table.Unsorted(x)
	for _, row := range allRows(x.Lanes, 2) {
		if outcome, _ := ran(x, row); !isSorted(outcome) {
			if !slices.Equal(l, row) || e != api.OK || table.Fails(x, l) != api.OK {
				t.Fatalf("Unsorted of %v: %v %d, want %v", x, l, e, row)
			}
			return
		}
	}
	if len(l) != 0 || e != api.ErrClash || !want {
		t.Fatalf("Unsorted of %v: %v %d", x, l, e)
	}
}

// compareOutcomes compares Outcomes with the definition.
func compareOutcomes(t *testing.T, x table.Table) {
	t.Helper()
	var want [][]int
	for _, row := range allRows(x.Lanes, 2) {
		outcome, _ := ran(x, row)
		want = append(want, outcome)
	}
	slices.SortFunc(want, slices.Compare)
	want = slices.CompactFunc(want, slices.Equal)
	if l := mustOutcomes(t, x); !equal(l, want) {
		t.Fatalf("Outcomes of %v: %v, want %v", x, l, want)
	}
}

// compareIdle compares Idle with the definition.
func compareIdle(t *testing.T, x table.Table, rows [][]int) {
	t.Helper()
	var busy [24]bool
	for _, row := range rows {
		_, l := ran(x, row)
		for _, i := range l {
			busy[i] = true
		}
	}
	var want []int
	for i := range x.Comparators {
		if !busy[i] {
			want = append(want, i)
		}
	}
	if l := mustIdle(t, x); !slices.Equal(l, want) {
		t.Fatalf("Idle of %v: %v, want %v", x, l, want)
	}
}

// compareNeeded compares Needed with the definition.
func compareNeeded(t *testing.T, x table.Table, rows [][]int) {
	t.Helper()
	l, e := table.Needed(x)
	if !sortsAll(x, rows) {
		if len(l) != 0 || e != api.ErrLost {
			t.Fatalf("Needed of %v: %v %d", x, l, e)
		}
		return
	}
	var want []int
	for i := range x.Comparators {
		if !sortsAll(without(x, i), rows) {
			want = append(want, i)
		}
	}
	if !slices.Equal(l, want) || e != api.OK {
		t.Fatalf("Needed of %v: %v %d, want %v", x, l, e, want)
	}
}

// compareLayers compares Layers with the definition.
func compareLayers(t *testing.T, x table.Table) {
	t.Helper()
	var want [][]int
	for i, c := range x.Comparators {
		at := 0
		for layer, l := range want {
			if slices.ContainsFunc(l, func(k int) bool {
				other := x.Comparators[k]
				return slices.Contains(other[:], c[0]) || slices.Contains(other[:], c[1])
			}) {
				at = layer + 1
			}
		}
		if at == len(want) {
			want = append(want, nil)
		}
		want[at] = append(want[at], i)
	}
	if l := mustLayers(t, x); !equal(l, want) {
		t.Fatalf("Layers of %v: %v, want %v", x, l, want)
	}
}

// comparePlaces compares Place with the definition: in a row of the numbers from 0 on, as many as a number are smaller than it.
func comparePlaces(t *testing.T, x table.Table) {
	t.Helper()
	smallest, greatest := slices.Repeat(list(x.Lanes), x.Lanes), make([]int, x.Lanes)
	for _, row := range orders(x.Lanes) {
		outcome, _ := ran(x, row)
		for lane, n := range outcome {
			smallest[lane], greatest[lane] = min(smallest[lane], n), max(greatest[lane], n)
		}
	}
	for lane := range x.Lanes {
		if least, most := mustPlace(t, x, lane); least != smallest[lane] || most != greatest[lane] {
			t.Fatalf("Place of %v, %d: %d %d, want %d %d", x, lane, least, most, smallest[lane], greatest[lane])
		}
	}
}

// compareMerges compares Merges with the definition.
func compareMerges(t *testing.T, x table.Table, rows [][]int) {
	t.Helper()
	for upper := range x.Lanes + 1 {
		want := sortsAll(x, slices.DeleteFunc(slices.Clone(rows), func(row []int) bool {
			return !isSorted(row[:upper]) || !isSorted(row[upper:])
		}))
		if merges := mustMerges(t, x, upper); merges != want {
			t.Fatalf("Merges of %v, %d: %v", x, upper, merges)
		}
	}
}

// compareFinish compares Finish with the definition.
func compareFinish(t *testing.T, x table.Table, all [][][2]int) {
	t.Helper()
	rows := orders(x.Lanes)
	for _, l := range all {
		if sortsAll(behind(x, l...), rows) {
			if got := mustFinish(t, x); !slices.Equal(got, l) {
				t.Fatalf("Finish of %v: %v, want %v", x, got, l)
			}
			return
		}
	}
	t.Fatalf("%v cannot be finished", x)
}

// P7.1 to P7.7: all small tables, compared with the definitions.
func TestAllTables(t *testing.T) {
	for _, x := range [][2]int{{1, 0}, {2, 5}, {3, 5}, {4, 3}} {
		rows := allRows(x[0], x[0])
		shortest := lists(x[0], 5)
		for _, l := range lists(x[0], x[1]) {
			small := of(x[0], l...)
			compare(t, small, rows)
			compareNeeded(t, small, rows)
			compareFinish(t, small, shortest)
		}
	}
}

// P7.1 to P7.6: samples of larger tables, compared with the definitions over all rows of different numbers.
func TestLargeTables(t *testing.T) {
	r := rand.New(rand.NewPCG(7, 1))
	for range 60 {
		for _, x := range []table.Table{anyTable(r), sortingTable(r)} {
			compare(t, x, rowsOf(x.Lanes))
		}
	}
	for range 20 {
		for _, x := range []table.Table{anyTable(r), sortingTable(r)} {
			compareNeeded(t, x, rowsOf(x.Lanes))
		}
	}
}

// P7.7: samples of tables that have many comparators, compared with the definition.
func TestP7_7Large(t *testing.T) {
	r := rand.New(rand.NewPCG(7, 7))
	for lanes := 1; lanes <= 4; lanes++ {
		shortest := lists(lanes, 5)
		for range 60 {
			compareFinish(t, of(lanes, randomPairs(r, lanes, r.IntN(25))...), shortest)
		}
	}
}

// P7.1, P7.2: rows of any numbers, equal ones among them, compared with the definitions.
func TestP7_1AnyRows(t *testing.T) {
	r := rand.New(rand.NewPCG(7, 2))
	for range 500 {
		x := anyTable(r)
		var rows [][]int
		for range 20 {
			rows = append(rows, randomRow(r, x.Lanes))
		}
		compareRuns(t, x, rows)
	}
}

// P7.1: all pairs of comparators with lanes from -1 to 3, compared with the words about errors.
func TestP7_1AllErrors(t *testing.T) {
	for _, l := range allRows(4, 5) {
		x := of(3, [2]int{l[0] - 1, l[1] - 1}, [2]int{l[2] - 1, l[3] - 1})
		if e := table.Check(x); e != verdict(x) {
			t.Fatalf("Check of %v: %d, want %d", x, e, verdict(x))
		}
	}
}
