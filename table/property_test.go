package table_test

import (
	"math/rand/v2"
	"slices"
	"testing"

	"spadille/api"
	"spadille/table"
)

// P7.8: plain rows tell whether a table sorts all rows, whether it merges, and which comparators are idle.
func TestP7_8Plain(t *testing.T) {
	r := rand.New(rand.NewPCG(7, 8))
	for range 40 {
		for _, x := range []table.Table{anyTable(r), sortingTable(r)} {
			plain := allRows(x.Lanes, 2)
			compareSorts(t, x, plain)
			compareSorts(t, x, rowsOf(x.Lanes))
			compareMerges(t, x, plain)
			compareMerges(t, x, rowsOf(x.Lanes))
			compareIdle(t, x, plain)
			compareIdle(t, x, rowsOf(x.Lanes))
		}
	}
}

// P7.9: a table sorts just if it has one outcome more than lanes; it never has fewer.
func TestP7_9Outcomes(t *testing.T) {
	r := rand.New(rand.NewPCG(7, 9))
	for range 500 {
		for _, x := range []table.Table{anyTable(r), sortingTable(r)} {
			n := len(mustOutcomes(t, x))
			if n <= x.Lanes || (n == x.Lanes+1) != mustSorts(t, x) {
				t.Fatalf("Outcomes of %v: %d, and it sorts: %v", x, n, mustSorts(t, x))
			}
		}
	}
}

// P7.10: the outcome goes with the numbers of the row, and has the same ones.
func TestP7_10Numbers(t *testing.T) {
	r := rand.New(rand.NewPCG(7, 10))
	for range 2000 {
		x := anyTable(r)
		row := randomRow(r, x.Lanes)
		numbers := slices.Sorted(slices.Values(row))
		outcome := mustRun(t, x, row)
		if !slices.Equal(slices.Sorted(slices.Values(outcome)), numbers) {
			t.Fatalf("Run of %v, %v: %v", x, row, outcome)
		}
		others := slices.Sorted(slices.Values(randomRow(r, x.Lanes)))
		replaced := func(l []int) []int {
			var other []int
			for _, n := range l {
				other = append(other, others[slices.Index(numbers, n)])
			}
			return other
		}
		if l := mustRun(t, x, replaced(row)); !slices.Equal(l, replaced(outcome)) {
			t.Fatalf("Run of %v, %v: %v, but %v of %v", x, replaced(row), l, outcome, row)
		}
	}
}

// P7.11: upside down, a table sorts just if it did before.
func TestP7_11UpsideDown(t *testing.T) {
	r := rand.New(rand.NewPCG(7, 11))
	for range 500 {
		for _, x := range []table.Table{anyTable(r), sortingTable(r)} {
			if mustSorts(t, upsideDown(x)) != mustSorts(t, x) {
				t.Fatalf("Sorts of %v is not that of %v", x, upsideDown(x))
			}
		}
	}
}

// P7.12: without idle comparators all outcomes stay.
func TestP7_12Less(t *testing.T) {
	r := rand.New(rand.NewPCG(7, 12))
	for range 300 {
		x := anyTable(r)
		less := x
		for l := mustIdle(t, less); len(l) > 0; l = mustIdle(t, less) {
			less = without(less, l[r.IntN(len(l))])
		}
		if !equal(mustOutcomes(t, less), mustOutcomes(t, x)) {
			t.Fatalf("%v has not the outcomes of %v", less, x)
		}
		for range 20 {
			row := randomRow(r, x.Lanes)
			if !slices.Equal(mustRun(t, less, row), mustRun(t, x, row)) {
				t.Fatalf("%v and %v run %v to different outcomes", less, x, row)
			}
		}
	}
}

// P7.12: a table that sorts still does with one more comparator at its end, or at its beginning.
func TestP7_12More(t *testing.T) {
	r := rand.New(rand.NewPCG(7, 13))
	for range 200 {
		x := sortingTable(r)
		if len(x.Comparators) == 24 {
			continue
		}
		for _, c := range pairsOf(x.Lanes) {
			if !mustSorts(t, behind(x, c)) || !mustSorts(t, behind(of(x.Lanes, c), x.Comparators...)) {
				t.Fatalf("%v does not sort with %v", x, c)
			}
			if l := mustIdle(t, behind(x, c)); !slices.Contains(l, len(x.Comparators)) {
				t.Fatalf("%v: %v is not idle behind it", x, c)
			}
		}
	}
}

// P7.13: a table sorts just if each lane has just the place of its number.
func TestP7_13Places(t *testing.T) {
	r := rand.New(rand.NewPCG(7, 14))
	for range 300 {
		for _, x := range []table.Table{anyTable(r), sortingTable(r)} {
			all := true
			for lane := range x.Lanes {
				least, most := mustPlace(t, x, lane)
				all = all && least == lane && most == lane
			}
			if all != mustSorts(t, x) {
				t.Fatalf("%v has the place of each lane: %v, and sorts: %v", x, all, mustSorts(t, x))
			}
		}
	}
}

// P7.14: as many comparators finish a table without any; never more are needed for others.
func TestP7_14Few(t *testing.T) {
	few := list(0, 0, 1, 3, 5)
	r := rand.New(rand.NewPCG(7, 15))
	for lanes := 1; lanes <= 4; lanes++ {
		if l := mustFinish(t, of(lanes)); len(l) != few[lanes] {
			t.Errorf("Finish of %d lanes: %v", lanes, l)
		}
		for range 100 {
			x := of(lanes, randomPairs(r, lanes, r.IntN(10))...)
			l := mustFinish(t, x)
			if len(l) > few[lanes] || (len(l) == 0) != mustSorts(t, x) || !mustSorts(t, behind(x, l...)) {
				t.Fatalf("Finish of %v: %v", x, l)
			}
		}
	}
}

// S4: each comparator that is needed has a row that proves it, and those that are not needed have none.
func TestNeededProofs(t *testing.T) {
	r := rand.New(rand.NewPCG(7, 16))
	for range 100 {
		x := sortingTable(r)
		needed, e := table.Needed(x)
		if e != api.OK {
			t.Fatalf("Needed of %v: %d", x, e)
		}
		for i := range x.Comparators {
			row, e := table.Unsorted(without(x, i))
			if slices.Contains(needed, i) != (e == api.OK) {
				t.Fatalf("Needed of %v: %v, but Unsorted without %d: %d", x, needed, i, e)
			}
			if e == api.OK && (table.Fails(without(x, i), row) != api.OK || table.Fails(x, row) != api.ErrProof) {
				t.Fatalf("%v: %v does not prove that %d is needed", x, row, i)
			}
		}
	}
}
