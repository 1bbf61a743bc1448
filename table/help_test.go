package table_test

import (
	"math"
	"math/rand/v2"
	"slices"
	"testing"

	"spadille/api"
	"spadille/table"
)

// This file says again what the chapter's definitions say, as plainly as possible and
// without the package, so that the other tests can compare the package with it.

func list(l ...int) []int { return l }

// of returns a table with these lanes and comparators.
func of(lanes int, pairs ...[2]int) table.Table { return table.Table{Lanes: lanes, Comparators: pairs} }

// The tables of the chapter's examples.
func tableB() table.Table { return of(3, [2]int{0, 1}, [2]int{1, 2}, [2]int{0, 1}) }
func tableC() table.Table {
	return of(4, [2]int{0, 1}, [2]int{2, 3}, [2]int{0, 2}, [2]int{1, 3})
}

// equal returns whether lists of lists are the same.
func equal(a, b [][]int) bool { return slices.EqualFunc(a, b, slices.Equal) }

// verdict returns the error of a table.
func verdict(t table.Table) api.Errno {
	if t.Lanes < 1 || t.Lanes > 7 {
		return api.ErrRange
	}
	if len(t.Comparators) > 24 {
		return api.ErrMany
	}
	for _, c := range t.Comparators {
		for _, n := range c {
			if n < 0 || n >= t.Lanes {
				return api.ErrNone
			}
		}
		if c[1] <= c[0] {
			return api.ErrOrder
		}
	}
	return api.OK
}

// ran returns the outcome of a row, and the comparators that exchanged something.
func ran(t table.Table, row []int) (outcome, busy []int) {
	outcome = slices.Clone(row)
	for i, c := range t.Comparators {
		up, down := outcome[c[0]], outcome[c[1]]
		outcome[c[0]], outcome[c[1]] = min(up, down), max(up, down)
		if up > down {
			busy = append(busy, i)
		}
	}
	return outcome, busy
}

// isSorted returns whether no number is smaller than the one before it.
func isSorted(row []int) bool {
	for i := 1; i < len(row); i++ {
		if row[i] < row[i-1] {
			return false
		}
	}
	return true
}

// allRows returns all rows of numbers from 0 to base less 1, in ascending order.
func allRows(lanes, base int) [][]int {
	all := [][]int{{}}
	for range lanes {
		var longer [][]int
		for _, l := range all {
			for n := range base {
				longer = append(longer, append(slices.Clone(l), n))
			}
		}
		all = longer
	}
	return all
}

// orders returns all rows that have each number from 0 to lanes less 1 once, in ascending order.
func orders(lanes int) [][]int {
	all := [][]int{{}}
	for range lanes {
		var longer [][]int
		for _, l := range all {
			for n := range lanes {
				if !slices.Contains(l, n) {
					longer = append(longer, append(slices.Clone(l), n))
				}
			}
		}
		all = longer
	}
	return all
}

// rowsOf returns rows that behave in each way in which rows can: all with these lanes and numbers,
// equal ones among them, if these are not too many, or else those of different numbers.
func rowsOf(lanes int) [][]int {
	if lanes <= 4 {
		return allRows(lanes, lanes)
	}
	return orders(lanes)
}

// sortsAll returns whether the outcomes of some rows are sorted.
func sortsAll(t table.Table, rows [][]int) bool {
	return !slices.ContainsFunc(rows, func(row []int) bool {
		outcome, _ := ran(t, row)
		return !isSorted(outcome)
	})
}

// without returns a table without one of its comparators.
func without(t table.Table, index int) table.Table {
	return of(t.Lanes, slices.Delete(slices.Clone(t.Comparators), index, index+1)...)
}

// behind returns a table with more comparators at its end.
func behind(t table.Table, more ...[2]int) table.Table {
	return of(t.Lanes, slices.Concat(t.Comparators, more)...)
}

// pairsOf returns all comparators of so many lanes in ascending order.
func pairsOf(lanes int) [][2]int {
	var all [][2]int
	for a := range lanes {
		for b := range lanes {
			if a < b {
				all = append(all, [2]int{a, b})
			}
		}
	}
	return all
}

// lists returns all lists of up to so many comparators: the shorter ones first, and equally long ones in ascending order.
func lists(lanes, most int) [][][2]int {
	all := [][][2]int{nil}
	for i := 0; i < len(all) && len(all[i]) < most; i++ {
		for _, c := range pairsOf(lanes) {
			all = append(all, append(slices.Clone(all[i]), c))
		}
	}
	return all
}

// randomPairs returns so many comparators.
func randomPairs(r *rand.Rand, lanes, many int) [][2]int {
	var l [][2]int
	for range many {
		if all := pairsOf(lanes); len(all) > 0 {
			l = append(l, all[r.IntN(len(all))])
		}
	}
	return l
}

// anyTable returns a table with any number of lanes and comparators.
func anyTable(r *rand.Rand) table.Table {
	lanes := 1 + r.IntN(7)
	return of(lanes, randomPairs(r, lanes, r.IntN(25))...)
}

// bubbles returns a table that sorts: each number goes down as far as it must.
func bubbles(lanes int) table.Table {
	var l [][2]int
	for last := lanes - 1; last > 0; last-- {
		for lane := range last {
			l = append(l, [2]int{lane, lane + 1})
		}
	}
	return of(lanes, l...)
}

// sortingTable returns a table that sorts, with some comparators put into it before, between or behind those that do.
func sortingTable(r *rand.Rand) table.Table {
	lanes := 1 + r.IntN(7)
	t := bubbles(lanes)
	if lanes == 4 && r.IntN(2) == 0 {
		t = behind(tableC(), [2]int{1, 2})
	}
	if r.IntN(2) == 0 {
		t = upsideDown(t)
	}
	for _, c := range randomPairs(r, lanes, r.IntN(25-len(t.Comparators))) {
		more := of(lanes, slices.Insert(slices.Clone(t.Comparators), r.IntN(len(t.Comparators)+1), c)...)
		if sortsAll(more, allRows(lanes, 2)) {
			t = more
		}
	}
	return t
}

// upsideDown returns a table with its lanes numbered from below.
func upsideDown(t table.Table) table.Table {
	var l [][2]int
	for _, c := range t.Comparators {
		l = append(l, [2]int{t.Lanes - 1 - c[1], t.Lanes - 1 - c[0]})
	}
	return of(t.Lanes, l...)
}

// randomRow returns a row of numbers some of which are equal, and some far out.
func randomRow(r *rand.Rand, lanes int) []int {
	l := list()
	for range lanes {
		if r.IntN(8) == 0 {
			l = append(l, odd()[r.IntN(len(odd()))])
		} else {
			l = append(l, r.IntN(2*lanes)-lanes)
		}
	}
	return l
}

// odd returns numbers that are mostly outside of all bounds.
func odd() []int {
	return list(math.MinInt, math.MinInt+1, -10, -2, -1, 7, 8, 9, 63, 64, 255, 1<<32, 1<<60, math.MaxInt-1, math.MaxInt)
}

// wrong returns tables that are not valid.
func wrong() []table.Table {
	one := [2]int{0, 1}
	many := slices.Repeat([][2]int{one}, 25)
	huge := make([][2]int, 100000)
	all := []table.Table{
		of(0), of(0, one), of(0, many...), of(7, many...), of(7, huge...), of(8, huge...), of(8, one), of(8), of(1, many...),
		of(1, one), of(1, [2]int{0, 0}), of(2, [2]int{0, 2}), of(2, [2]int{-1, 0}), of(2, [2]int{1, 0}), of(2, [2]int{0, 0}), of(2, [2]int{2, 2}),
		of(3, one, [2]int{2, 1}, [2]int{3, 0}), of(3, one, [2]int{3, 0}, [2]int{2, 1}), of(3, [2]int{2, -1}), of(3, [2]int{3, 1}), of(7, [2]int{6, 7}),
		of(5, [2]int{4, 5}), of(6, [2]int{5, 5}), of(7, slices.Concat(many[:23], [][2]int{{1, 0}})...), of(4, [2]int{math.MinInt, math.MaxInt}),
	}
	for _, n := range odd() {
		if n < 1 || n > 7 {
			all = append(all, of(n), of(n, one))
		}
		if n < 0 || n > 6 {
			all = append(all, of(7, [2]int{0, n}), of(7, [2]int{n, 0}), of(7, [2]int{n, n}))
		}
	}
	return all
}

func mustRun(t *testing.T, x table.Table, row []int) []int {
	t.Helper()
	l, e := table.Run(x, row)
	if e != api.OK {
		t.Fatalf("Run of %v, %v: %d", x, row, e)
	}
	return l
}

func mustSorts(t *testing.T, x table.Table) bool {
	t.Helper()
	sorts, e := table.Sorts(x)
	if e != api.OK {
		t.Fatalf("Sorts of %v: %d", x, e)
	}
	return sorts
}

func mustOutcomes(t *testing.T, x table.Table) [][]int {
	t.Helper()
	l, e := table.Outcomes(x)
	if e != api.OK {
		t.Fatalf("Outcomes of %v: %d", x, e)
	}
	return l
}

func mustIdle(t *testing.T, x table.Table) []int {
	t.Helper()
	l, e := table.Idle(x)
	if e != api.OK {
		t.Fatalf("Idle of %v: %d", x, e)
	}
	return l
}

func mustLayers(t *testing.T, x table.Table) [][]int {
	t.Helper()
	l, e := table.Layers(x)
	if e != api.OK {
		t.Fatalf("Layers of %v: %d", x, e)
	}
	return l
}

func mustPlace(t *testing.T, x table.Table, lane int) (least, most int) {
	t.Helper()
	least, most, e := table.Place(x, lane)
	if e != api.OK {
		t.Fatalf("Place of %v, %d: %d", x, lane, e)
	}
	return least, most
}

func mustMerges(t *testing.T, x table.Table, upper int) bool {
	t.Helper()
	merges, e := table.Merges(x, upper)
	if e != api.OK {
		t.Fatalf("Merges of %v, %d: %d", x, upper, e)
	}
	return merges
}

func mustFinish(t *testing.T, x table.Table) [][2]int {
	t.Helper()
	l, e := table.Finish(x)
	if e != api.OK {
		t.Fatalf("Finish of %v: %d", x, e)
	}
	return l
}
