package press_test

import (
	"math"
	"math/rand/v2"
	"slices"
	"testing"

	"spadille/api"
	"spadille/press"
)

// This file says again what the chapter's definitions say, as plainly as possible and
// without the package, so that the other tests can compare the package with it.

func list(l ...int) []int { return l }

// The tables of the chapter's examples.
func tableT() [][]int { return [][]int{{0, 0, 1}, {0, 1, 1}, {1, 1, 1}, {1, 1, 2}} }
func tableU() [][]int { return [][]int{{1, 0, 0}, {0, 1, 0}, {0, 0, 1}} }

// equal returns whether lists of lists are the same.
func equal(a, b [][]int) bool { return slices.EqualFunc(a, b, slices.Equal) }

// upTo returns the numbers from 0 to n less 1.
func upTo(n int) []int {
	l := list()
	for i := range n {
		l = append(l, i)
	}
	return l
}

// allLists returns all lists of so many numbers from 0 to base less 1, in ascending order.
func allLists(length, base int) [][]int {
	all := [][]int{{}}
	for range length {
		var longer [][]int
		for _, l := range all {
			for n := range base {
				longer = append(longer, append(slices.Clone(l), n))
			}
		}
		all = longer
	}
	return all
}

// allTables returns all tables with so many positions, measures and values.
func allTables(positions, measures, values int) [][][]int {
	var all [][][]int
	for _, l := range allLists(positions*measures, values) {
		table := [][]int{}
		for p := range positions {
			table = append(table, l[p*measures:(p+1)*measures])
		}
		all = append(all, table)
	}
	return all
}

// sublists returns all lists of numbers below n in strictly ascending order: the shorter ones first, and equally long ones in ascending order.
func sublists(n int) [][]int {
	all := [][]int{{}}
	for i := 0; i < len(all); i++ {
		from := 0
		if l := all[i]; len(l) > 0 {
			from = l[len(l)-1] + 1
		}
		for m := from; m < n; m++ {
			all = append(all, append(slices.Clone(all[i]), m))
		}
	}
	return all
}

// verdict returns the error of a table.
func verdict(table [][]int) api.Errno {
	if len(table) == 0 {
		return api.ErrEmpty
	}
	if len(table) > 8 || len(table[0]) > 8 {
		return api.ErrMany
	}
	for _, values := range table {
		if len(values) != len(table[0]) {
			return api.ErrShape
		}
		for _, value := range values {
			if value < 0 || value > 9 {
				return api.ErrRange
			}
		}
	}
	return api.OK
}

// told returns whether measures tell two positions apart.
func told(table [][]int, measures []int, a, b int) bool {
	for _, m := range measures {
		if table[a][m] != table[b][m] {
			return true
		}
	}
	return false
}

// same returns the first two positions that measures do not tell apart, and whether there are some.
func same(table [][]int, measures []int) (a, b int, found bool) {
	for a := range table {
		for b := a + 1; b < len(table); b++ {
			if !told(table, measures, a, b) {
				return a, b, true
			}
		}
	}
	return 0, 0, false
}

// tells returns whether measures tell all positions apart.
func tells(table [][]int, measures []int) bool {
	_, _, found := same(table, measures)
	return !found
}

// measures returns all measures of a table.
func measures(table [][]int) []int { return upTo(len(table[0])) }

// without returns a list without one of its elements.
func without(l []int, n int) []int {
	return slices.DeleteFunc(slices.Clone(l), func(x int) bool { return x == n })
}

// groups returns the groups of measures.
func groups(table [][]int, measures []int) [][]int {
	var all [][]int
	for p := range table {
		group := list()
		for q := range table {
			if !told(table, measures, p, q) {
				group = append(group, q)
			}
		}
		if group[0] == p {
			all = append(all, group)
		}
	}
	return all
}

// fitting returns the positions that fit what was seen.
func fitting(table [][]int, seen []press.Seen) []int {
	l := list()
	for p, values := range table {
		fits := true
		for _, s := range seen {
			fits = fits && values[s.Measure] == s.Value
		}
		if fits {
			l = append(l, p)
		}
	}
	return l
}

// byValue returns, of a list of positions, those with each value of a measure that occurs.
func byValue(table [][]int, positions []int, measure int) [][]int {
	var all [][]int
	for value := range 10 {
		part := list()
		for _, p := range positions {
			if table[p][measure] == value {
				part = append(part, p)
			}
		}
		if len(part) > 0 {
			all = append(all, part)
		}
	}
	return all
}

// deepOf returns how deep a list of positions is.
func deepOf(table [][]int, positions []int) int {
	if len(positions) == 1 {
		return 0
	}
	least := math.MaxInt
	for _, m := range measures(table) {
		parts := byValue(table, positions, m)
		if len(parts) < 2 {
			continue
		}
		deepest := 0
		for _, part := range parts {
			deepest = max(deepest, deepOf(table, part))
		}
		least = min(least, 1+deepest)
	}
	return least
}

// nextOf returns what Next returns.
func nextOf(table [][]int, seen []press.Seen) (int, api.Errno) {
	l := fitting(table, seen)
	if len(l) == 0 {
		return 0, api.ErrLost
	}
	best, least := -1, math.MaxInt
	for _, m := range measures(table) {
		most := 0
		parts := byValue(table, l, m)
		for _, part := range parts {
			most = max(most, len(part))
		}
		if len(parts) > 1 && most < least {
			best, least = m, most
		}
	}
	if best < 0 {
		return 0, api.ErrClash
	}
	return best, api.OK
}

// randomTable returns a table with so many positions, measures and values.
func randomTable(r *rand.Rand, positions, measures, values int) [][]int {
	table := [][]int{}
	for range positions {
		l := list()
		for range measures {
			l = append(l, r.IntN(values))
		}
		table = append(table, l)
	}
	return table
}

// anyTable returns a table with any numbers of positions, measures and values.
func anyTable(r *rand.Rand) [][]int {
	return randomTable(r, 1+r.IntN(8), r.IntN(9), 1+r.IntN(1+r.IntN(10)))
}

// toldTable returns a table whose measures tell all positions apart.
func toldTable(r *rand.Rand) [][]int {
	for {
		if table := anyTable(r); tells(table, measures(table)) {
			return table
		}
	}
}

// randomMeasures returns some measures of a table.
func randomMeasures(r *rand.Rand, table [][]int) []int {
	l := list()
	for _, m := range measures(table) {
		if r.IntN(2) == 0 {
			l = append(l, m)
		}
	}
	return l
}

// randomSeen returns some measures with values, most of them of one position.
func randomSeen(r *rand.Rand, table [][]int) []press.Seen {
	p := r.IntN(len(table))
	var seen []press.Seen
	for _, m := range r.Perm(len(table[0]))[:r.IntN(len(table[0])+1)] {
		value := table[p][m]
		if r.IntN(12) == 0 {
			value = r.IntN(10)
		}
		seen = append(seen, press.Seen{Measure: m, Value: value})
	}
	return seen
}

// odd returns numbers that are mostly outside of all bounds.
func odd() []int {
	return list(math.MinInt, math.MinInt+1, -10, -2, -1, 8, 9, 10, 255, 256, 1<<32, 1<<60, math.MaxInt-1, math.MaxInt)
}

// wrong returns tables that are not valid.
func wrong() [][][]int {
	huge := make([]int, 100000)
	return [][][]int{
		nil, {}, make([][]int, 9), make([][]int, 100000), {make([]int, 9)}, {huge}, {slices.Repeat(list(-1), 9), {}},
		{{}, {0}}, {{0}, {}}, {{0}, nil}, {{0}, {0, 0}}, {{0, 1}, {0, 1}, {0}}, {{0}, huge}, {{0}, {10, 10}}, {{0}, {-1, 0}, {10}},
		{{10}}, {{-1}}, {{0, 10}}, {{math.MinInt}}, {{0}, {math.MaxInt}}, {{0, 0}, {0, 10}, {0}}, {{0, -1}, {0}}, {{10}, {0, 0}},
		{{0, 0, 0, 0, 0, 0, 0, 10}}, {{0}, {0}, {0}, {0}, {0}, {0}, {0}, {10}}, {{0}, {0}, {0}, {0}, {0}, {0}, {0}, {}}, {{1}, {}, {10}},
	}
}

func mustGroups(t *testing.T, table [][]int, measures []int) [][]int {
	t.Helper()
	l, e := press.Groups(table, measures)
	if e != api.OK {
		t.Fatalf("Groups of %v, %v: %d", table, measures, e)
	}
	return l
}

func mustDiffer(t *testing.T, table [][]int, a, b int) []int {
	t.Helper()
	l, e := press.Differ(table, a, b)
	if e != api.OK {
		t.Fatalf("Differ of %v, %d, %d: %d", table, a, b, e)
	}
	return l
}

func mustNeeded(t *testing.T, table [][]int) [][3]int {
	t.Helper()
	l, e := press.Needed(table)
	if e != api.OK {
		t.Fatalf("Needed of %v: %d", table, e)
	}
	return l
}

func mustIdle(t *testing.T, table [][]int) []int {
	t.Helper()
	l, e := press.Idle(table)
	if e != api.OK {
		t.Fatalf("Idle of %v: %d", table, e)
	}
	return l
}

func mustFewest(t *testing.T, table [][]int) []int {
	t.Helper()
	l, e := press.Fewest(table)
	if e != api.OK {
		t.Fatalf("Fewest of %v: %d", table, e)
	}
	return l
}

func mustCount(t *testing.T, table [][]int) int {
	t.Helper()
	n, e := press.Count(table)
	if e != api.OK {
		t.Fatalf("Count of %v: %d", table, e)
	}
	return n
}

func mustFrom(t *testing.T, table [][]int, seen []press.Seen) []int {
	t.Helper()
	l, e := press.From(table, seen)
	if e != api.OK {
		t.Fatalf("From of %v, %v: %d", table, seen, e)
	}
	return l
}

func mustDeep(t *testing.T, table [][]int) int {
	t.Helper()
	n, e := press.Deep(table)
	if e != api.OK {
		t.Fatalf("Deep of %v: %d", table, e)
	}
	return n
}
