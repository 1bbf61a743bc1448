package press_test

import (
	"math/rand/v2"
	"slices"
	"testing"

	"spadille/api"
	"spadille/press"
)

// compare compares all functions of a table with the definitions.
func compare(t *testing.T, table [][]int) {
	t.Helper()
	for _, m := range sublists(len(table[0])) {
		compareGroups(t, table, m)
	}
	for a := range table {
		for b := range table {
			compareDiffer(t, table, a, b)
		}
	}
	compareMeasures(t, table)
	compareNext(t, table, nil)
}

// compareGroups compares Groups and Apart with the definitions.
func compareGroups(t *testing.T, table [][]int, m []int) {
	t.Helper()
	if l := mustGroups(t, table, m); !equal(l, groups(table, m)) {
		t.Fatalf("Groups of %v, %v: %v", table, m, l)
	}
	want := api.OK
	one, two, found := same(table, m)
	if found {
		want = api.ErrClash
	}
	if a, b, e := press.Apart(table, m); a != one || b != two || e != want {
		t.Fatalf("Apart of %v, %v: %d %d %d, want %d %d %d", table, m, a, b, e, one, two, want)
	}
}

// compareDiffer compares Differ with the definitions.
func compareDiffer(t *testing.T, table [][]int, a, b int) {
	t.Helper()
	var want []int
	for _, m := range measures(table) {
		if told(table, list(m), a, b) {
			want = append(want, m)
		}
	}
	e := api.OK
	if a == b {
		e = api.ErrTwice
	}
	if l, f := press.Differ(table, a, b); !slices.Equal(l, want) || f != e {
		t.Fatalf("Differ of %v, %d, %d: %v %d, want %v %d", table, a, b, l, f, want, e)
	}
}

// compareMeasures compares Idle, Needed, Fewest, Count and Deep with the definitions.
func compareMeasures(t *testing.T, table [][]int) {
	t.Helper()
	var telling [][]int
	for _, m := range sublists(len(table[0])) {
		if tells(table, m) {
			telling = append(telling, m)
		}
	}
	if n := mustCount(t, table); n != len(telling) {
		t.Fatalf("Count of %v: %d, want %d", table, n, len(telling))
	}
	if len(telling) == 0 {
		compareClash(t, table)
		return
	}
	if l := mustFewest(t, table); !slices.Equal(l, telling[0]) {
		t.Fatalf("Fewest of %v: %v, want %v", table, l, telling[0])
	}
	if n := mustDeep(t, table); n != deepOf(table, upTo(len(table))) {
		t.Fatalf("Deep of %v: %d, want %d", table, n, deepOf(table, upTo(len(table))))
	}
	var idle []int
	var needed [][3]int
	for _, m := range measures(table) {
		if a, b, found := same(table, without(measures(table), m)); found {
			needed = append(needed, [3]int{m, a, b})
		} else {
			idle = append(idle, m)
		}
	}
	if l := mustIdle(t, table); !slices.Equal(l, idle) {
		t.Fatalf("Idle of %v: %v, want %v", table, l, idle)
	}
	if l := mustNeeded(t, table); !slices.Equal(l, needed) {
		t.Fatalf("Needed of %v: %v, want %v", table, l, needed)
	}
}

// compareClash examines the errors of a table whose measures do not tell all positions apart.
func compareClash(t *testing.T, table [][]int) {
	t.Helper()
	idle, e1 := press.Idle(table)
	needed, e2 := press.Needed(table)
	fewest, e3 := press.Fewest(table)
	deep, e4 := press.Deep(table)
	if e1 != api.ErrClash || e2 != api.ErrClash || e3 != api.ErrClash || e4 != api.ErrClash {
		t.Fatalf("%v: errors are %d, %d, %d, %d", table, e1, e2, e3, e4)
	}
	if len(idle)+len(needed)+len(fewest)+deep != 0 {
		t.Fatalf("%v: results besides an error", table)
	}
}

// compareNext compares From and Next with the definitions.
func compareNext(t *testing.T, table [][]int, seen []press.Seen) {
	t.Helper()
	if l := mustFrom(t, table, seen); !slices.Equal(l, fitting(table, seen)) {
		t.Fatalf("From of %v, %v: %v, want %v", table, seen, l, fitting(table, seen))
	}
	want, e := nextOf(table, seen)
	if n, f := press.Next(table, seen); n != want || f != e {
		t.Fatalf("Next of %v, %v: %d %d, want %d %d", table, seen, n, f, want, e)
	}
}

// allSeen returns all that can be seen of so many measures with values below a number, in each order.
func allSeen(measures, values int) [][]press.Seen {
	all := [][]press.Seen{nil}
	for i := 0; i < len(all); i++ {
		for m := range measures {
			if slices.ContainsFunc(all[i], func(s press.Seen) bool { return s.Measure == m }) {
				continue
			}
			for value := range values {
				all = append(all, append(slices.Clone(all[i]), press.Seen{Measure: m, Value: value}))
			}
		}
	}
	return all
}

// P6.2 to P6.7: all small tables, compared with the definitions.
func TestAllTables(t *testing.T) {
	for _, x := range [][3]int{{1, 0, 1}, {2, 0, 1}, {8, 0, 1}, {1, 3, 2}, {2, 1, 3}, {2, 3, 3}, {3, 2, 3}, {3, 3, 2}, {4, 1, 4}, {4, 3, 2}, {5, 2, 2}, {3, 4, 2}} {
		seen := allSeen(min(x[1], 3), x[2]+1)
		for _, table := range allTables(x[0], x[1], x[2]) {
			compare(t, table)
			for _, s := range seen {
				if len(s) <= 1 || x[0]*x[1] <= 6 {
					compareNext(t, table, s)
				}
			}
		}
	}
}

// P6.2 to P6.7: samples of larger tables, compared with the definitions.
func TestLargeTables(t *testing.T) {
	r := rand.New(rand.NewPCG(6, 2))
	for range 300 {
		compare(t, anyTable(r))
		compareMeasures(t, toldTable(r))
	}
	for range 40 {
		compareMeasures(t, randomTable(r, 8, 8, 2))
		compareMeasures(t, randomTable(r, 8, 8, 3))
	}
	for range 5000 {
		table := anyTable(r)
		compareNext(t, table, randomSeen(r, table))
		compareGroups(t, table, randomMeasures(r, table))
	}
}

// P6.7: the deepest table of each size is a table of single differences.
func TestP6_7Deepest(t *testing.T) {
	for n := 1; n <= 8; n++ {
		table := [][]int{}
		for p := range n {
			values := make([]int, n-1)
			if p > 0 {
				values[p-1] = 1
			}
			table = append(table, values)
		}
		if d := mustDeep(t, table); d != n-1 {
			t.Errorf("Deep of %v: %d", table, d)
		}
		if l := mustFewest(t, table); len(l) != n-1 {
			t.Errorf("Fewest of %v: %v", table, l)
		}
	}
}

// P6.2: all lists of up to three measures from -1 to 4, compared with the words about errors.
func TestP6_2AllErrors(t *testing.T) {
	for length := range 4 {
		for _, l := range allLists(length, 6) {
			m, want := list(), api.OK
			for i, n := range l {
				m = append(m, n-1)
				switch {
				case want != api.OK:
				case n-1 < 0 || n-1 > 2:
					want = api.ErrNone
				case i > 0 && m[i] <= m[i-1]:
					want = api.ErrOrder
				}
			}
			found, e := press.Groups(tableT(), m)
			if e != want || e != api.OK && len(found) > 0 {
				t.Fatalf("Groups of T, %v: %v %d, want %d", m, found, e, want)
			}
			a, b, f := press.Apart(tableT(), m)
			if want == api.OK && f == api.ErrClash {
				continue
			}
			if a != 0 || b != 0 || f != want {
				t.Fatalf("Apart of T, %v: %d %d %d, want %d", m, a, b, f, want)
			}
		}
	}
}
