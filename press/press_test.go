package press_test

import (
	"math"
	"slices"
	"testing"

	"spadille/api"
	"spadille/press"
)

// The limits are those of the chapter.
func TestLimits(t *testing.T) {
	if press.MaxPositions != 8 || press.MaxMeasures != 8 || press.MaxValue != 9 {
		t.Error("a limit is not as the chapter gives it")
	}
}

// P6.1: which tables are valid, and which error the others have first (R1).
func TestP6_1Check(t *testing.T) {
	full := slices.Repeat([][]int{{0, 1, 2, 3, 4, 5, 6, 9}}, 8)
	for _, x := range []struct {
		table [][]int
		e     api.Errno
	}{
		{tableT(), 0}, {tableU(), 0}, {[][]int{{}}, 0}, {[][]int{nil}, 0}, {[][]int{nil, {}}, 0}, {[][]int{{9}}, 0}, {full, 0},
		{nil, api.ErrEmpty}, {[][]int{}, api.ErrEmpty}, {make([][]int, 9), api.ErrMany}, {[][]int{make([]int, 9)}, api.ErrMany},
		{append(slices.Clone(full), list(-1)), api.ErrMany}, {[][]int{slices.Repeat(list(10), 9), {}}, api.ErrMany},
		{[][]int{{0}, {}}, api.ErrShape}, {[][]int{{}, {0}}, api.ErrShape}, {[][]int{{0}, {-1, 0}}, api.ErrShape},
		{[][]int{{0}, make([]int, 9)}, api.ErrShape}, {[][]int{{0}, {}, {10}}, api.ErrShape}, {[][]int{{0}, {10}, {}}, api.ErrRange},
		{[][]int{{10}, {}}, api.ErrRange}, {[][]int{{0, -1}}, api.ErrRange}, {[][]int{{0}, {math.MaxInt}}, api.ErrRange},
		{[][]int{{math.MinInt}}, api.ErrRange},
	} {
		if e := press.Check(x.table); e != x.e {
			t.Errorf("Check of %v: %d, want %d", x.table, e, x.e)
		}
	}
}

// answers calls all functions but Check, with other arguments that are wrong as well or not,
// and returns their errors and whether they returned anything else.
func answers(table [][]int, measures []int, a, b int, seen []press.Seen) (errors []api.Errno, more bool) {
	groups, e1 := press.Groups(table, measures)
	one, two, e2 := press.Apart(table, measures)
	differ, e3 := press.Differ(table, a, b)
	idle, e4 := press.Idle(table)
	needed, e5 := press.Needed(table)
	fewest, e6 := press.Fewest(table)
	count, e7 := press.Count(table)
	from, e8 := press.From(table, seen)
	next, e9 := press.Next(table, seen)
	deep, e10 := press.Deep(table)
	more = len(groups)+len(differ)+len(idle)+len(needed)+len(fewest)+len(from) != 0 || one != 0 || two != 0 || count != 0 || next != 0 || deep != 0
	return []api.Errno{e1, e2, e3, e4, e5, e6, e7, e8, e9, e10}, more
}

// P6.1: all functions return at first the error of Check, and nothing else with it (R2).
func TestP6_1CheckFirst(t *testing.T) {
	for _, table := range wrong() {
		want := verdict(table)
		if e := press.Check(table); e != want || e == api.OK {
			t.Errorf("Check: %d, want %d", e, want)
		}
		for _, n := range append(odd(), 0, 1) {
			errors, more := answers(table, list(n, 0, 0), n, 1, []press.Seen{{Measure: n, Value: n}, {Measure: 0, Value: -1}})
			if more {
				t.Fatal("results besides an error")
			}
			for i, e := range errors {
				if e != want {
					t.Fatalf("error %d is %d, want %d", i, e, want)
				}
			}
		}
	}
}

// P6.2: the chapter's examples of Groups, and others.
func TestP6_2Groups(t *testing.T) {
	for _, x := range []struct {
		table    [][]int
		measures []int
		want     [][]int
	}{
		{tableT(), list(0), [][]int{{0, 1}, {2, 3}}}, {tableT(), list(0, 1), [][]int{{0}, {1}, {2, 3}}},
		{tableT(), list(0, 1, 2), [][]int{{0}, {1}, {2}, {3}}}, {tableT(), nil, [][]int{{0, 1, 2, 3}}}, {tableT(), list(2), [][]int{{0, 1, 2}, {3}}},
		{tableU(), list(1), [][]int{{0, 2}, {1}}}, {[][]int{{}}, nil, [][]int{{0}}}, {[][]int{{}, {}}, nil, [][]int{{0, 1}}},
		{[][]int{{1, 2}, {2, 1}, {0, 3}, {2, 1}}, list(0, 1), [][]int{{0}, {1, 3}, {2}}},
	} {
		if l, e := press.Groups(x.table, x.measures); !equal(l, x.want) || e != api.OK {
			t.Errorf("Groups of %v, %v: %v %d, want %v", x.table, x.measures, l, e, x.want)
		}
	}
}

// P6.2: the chapter's examples of Apart, and others.
func TestP6_2Apart(t *testing.T) {
	for _, x := range []struct {
		table    [][]int
		measures []int
		a, b     int
		e        api.Errno
	}{
		{tableT(), list(0, 1, 2), 0, 0, 0}, {tableT(), list(0, 1), 2, 3, api.ErrClash}, {tableT(), nil, 0, 1, api.ErrClash},
		{tableT(), list(1, 2), 1, 2, api.ErrClash}, {tableU(), list(0), 1, 2, api.ErrClash}, {tableU(), list(1), 0, 2, api.ErrClash},
		{tableU(), list(1, 2), 0, 0, 0}, {[][]int{{}}, nil, 0, 0, 0}, {[][]int{{}, {}}, nil, 0, 1, api.ErrClash}, {[][]int{{5}}, list(0), 0, 0, 0},
		{[][]int{{3}, {1}, {2}, {1}, {3}}, list(0), 0, 4, api.ErrClash}, {[][]int{{3}, {1}, {2}, {2}, {1}}, list(0), 1, 4, api.ErrClash},
	} {
		if a, b, e := press.Apart(x.table, x.measures); a != x.a || b != x.b || e != x.e {
			t.Errorf("Apart of %v, %v: %d %d %d, want %d %d %d", x.table, x.measures, a, b, e, x.a, x.b, x.e)
		}
	}
}

// P6.2: which error measures have first.
func TestP6_2Errors(t *testing.T) {
	for _, x := range []struct {
		table    [][]int
		measures []int
		e        api.Errno
	}{
		{tableT(), list(3), api.ErrNone}, {tableT(), list(-1), api.ErrNone}, {tableT(), list(0, 8), api.ErrNone}, {[][]int{{}}, list(0), api.ErrNone},
		{tableT(), list(math.MaxInt), api.ErrNone}, {tableT(), list(math.MinInt), api.ErrNone}, {tableT(), list(1, -1), api.ErrNone},
		{tableT(), list(0, 0), api.ErrOrder}, {tableT(), list(2, 1), api.ErrOrder}, {tableT(), list(0, 0, 9), api.ErrOrder},
		{tableT(), list(0, 9, 0), api.ErrNone}, {tableT(), make([]int, 100000), api.ErrOrder}, {tableT(), list(0, 1, 2, 2), api.ErrOrder},
		{tableT(), list(0, 1, 2, 3), api.ErrNone},
	} {
		l, e := press.Groups(x.table, x.measures)
		a, b, f := press.Apart(x.table, x.measures)
		if len(l) != 0 || a != 0 || b != 0 || e != x.e || f != x.e {
			t.Errorf("%v, %v: %v %d, %d %d %d, want %d", x.table, x.measures, l, e, a, b, f, x.e)
		}
	}
}

// P6.3: the chapter's examples of Differ, and its errors.
func TestP6_3Differ(t *testing.T) {
	for _, x := range []struct {
		table [][]int
		a, b  int
		want  []int
		e     api.Errno
	}{
		{tableT(), 0, 1, list(1), 0}, {tableU(), 0, 1, list(0, 1), 0}, {tableT(), 3, 0, list(0, 1, 2), 0}, {tableT(), 2, 1, list(0), 0},
		{[][]int{{4}, {4}}, 0, 1, nil, 0}, {[][]int{{}, {}}, 1, 0, nil, 0},
		{tableT(), -1, 0, nil, api.ErrNone}, {tableT(), 0, -1, nil, api.ErrNone}, {tableT(), 4, 0, nil, api.ErrNone}, {tableT(), 0, 4, nil, api.ErrNone},
		{tableT(), 4, 4, nil, api.ErrNone}, {tableT(), -1, -1, nil, api.ErrNone}, {tableT(), math.MaxInt, 0, nil, api.ErrNone},
		{tableT(), 0, math.MinInt, nil, api.ErrNone}, {tableT(), 0, 0, nil, api.ErrTwice}, {tableT(), 3, 3, nil, api.ErrTwice},
	} {
		if l, e := press.Differ(x.table, x.a, x.b); !slices.Equal(l, x.want) || e != x.e {
			t.Errorf("Differ of %v, %d, %d: %v %d, want %v %d", x.table, x.a, x.b, l, e, x.want, x.e)
		}
	}
}

// P6.4, P6.5, P6.7: the chapter's examples, and others.
func TestP6_4Measures(t *testing.T) {
	for _, x := range []struct {
		table  [][]int
		idle   []int
		needed [][3]int
		fewest []int
		count  int
		deep   int
	}{
		{tableT(), nil, [][3]int{{0, 1, 2}, {1, 0, 1}, {2, 2, 3}}, list(0, 1, 2), 1, 2},
		{tableU(), list(0, 1, 2), nil, list(0, 1), 4, 2},
		{[][]int{{}}, nil, nil, nil, 1, 0},
		{[][]int{{1, 5, 9}}, list(0, 1, 2), nil, nil, 8, 0},
		{[][]int{{0, 0}, {0, 1}}, list(0), [][3]int{{1, 0, 1}}, list(1), 2, 1},
		{[][]int{{0, 0, 5}, {0, 1, 5}, {1, 0, 6}, {1, 1, 6}}, list(0, 2), [][3]int{{1, 0, 1}}, list(0, 1), 3, 2},
		{[][]int{{0, 0}, {1, 1}, {2, 2}}, list(0, 1), nil, list(0), 3, 1},
		{[][]int{{0, 0, 0}, {0, 1, 0}, {1, 0, 0}, {1, 0, 1}}, nil, [][3]int{{0, 0, 2}, {1, 0, 1}, {2, 2, 3}}, list(0, 1, 2), 1, 2},
	} {
		idle, e1 := press.Idle(x.table)
		needed, e2 := press.Needed(x.table)
		fewest, e3 := press.Fewest(x.table)
		count, e4 := press.Count(x.table)
		deep, e5 := press.Deep(x.table)
		if e1 != api.OK || e2 != api.OK || e3 != api.OK || e4 != api.OK || e5 != api.OK {
			t.Errorf("%v: %d %d %d %d %d", x.table, e1, e2, e3, e4, e5)
		}
		if !slices.Equal(idle, x.idle) || !slices.Equal(needed, x.needed) || !slices.Equal(fewest, x.fewest) || count != x.count || deep != x.deep {
			t.Errorf("%v: %v, %v, %v, %d, %d", x.table, idle, needed, fewest, count, deep)
		}
	}
}

// P6.4, P6.5, P6.7: tables whose measures do not tell all positions apart; Count of them is 0.
func TestP6_5Clash(t *testing.T) {
	for _, table := range [][][]int{{{}, {}}, {{1}, {1}}, {{0}, {1}, {0}}, {{0, 1}, {1, 0}, {1, 1}, {1, 0}}, slices.Repeat([][]int{{1, 2, 3, 4, 5, 6, 7, 8}}, 8)} {
		idle, e1 := press.Idle(table)
		needed, e2 := press.Needed(table)
		fewest, e3 := press.Fewest(table)
		deep, e4 := press.Deep(table)
		for i, e := range []api.Errno{e1, e2, e3, e4} {
			if e != api.ErrClash {
				t.Errorf("%v: error %d is %d", table, i, e)
			}
		}
		if len(idle)+len(needed)+len(fewest) != 0 || deep != 0 {
			t.Errorf("%v: results besides an error", table)
		}
		if n := mustCount(t, table); n != 0 {
			t.Errorf("Count of %v: %d", table, n)
		}
	}
}

// P6.6: the chapter's examples of From and Next, and their errors.
func TestP6_6Seen(t *testing.T) {
	type seen = []press.Seen
	for _, x := range []struct {
		table   [][]int
		seen    seen
		want    []int
		e       api.Errno
		measure int
		f       api.Errno
	}{
		{tableT(), seen{{1, 1}}, list(1, 2, 3), 0, 0, 0}, {tableT(), seen{{1, 1}, {0, 0}}, list(1), 0, 0, api.ErrClash},
		{tableT(), seen{{0, 7}}, nil, 0, 0, api.ErrLost}, {tableT(), nil, list(0, 1, 2, 3), 0, 0, 0}, {tableT(), seen{{0, 0}}, list(0, 1), 0, 1, 0},
		{tableT(), seen{{0, 1}}, list(2, 3), 0, 2, 0}, {tableU(), seen{{2, 0}}, list(0, 1), 0, 0, 0}, {tableU(), seen{{0, 0}}, list(1, 2), 0, 1, 0},
		{tableU(), seen{{2, 0}, {1, 0}, {0, 0}}, nil, 0, 0, api.ErrLost}, {[][]int{{}}, nil, list(0), 0, 0, api.ErrClash},
		{[][]int{{}, {}}, seen{}, list(0, 1), 0, 0, api.ErrClash}, {[][]int{{3}, {3}}, seen{{0, 3}}, list(0, 1), 0, 0, api.ErrClash},
		{[][]int{{0, 0}, {0, 1}, {0, 2}, {1, 0}}, nil, list(0, 1, 2, 3), 0, 1, 0},
		{[][]int{{0, 0, 0}, {0, 0, 1}, {0, 1, 1}, {1, 0, 0}}, nil, list(0, 1, 2, 3), 0, 2, 0},
		{tableT(), seen{{3, 0}}, nil, api.ErrNone, 0, api.ErrNone}, {tableT(), seen{{-1, 10}}, nil, api.ErrNone, 0, api.ErrNone},
		{[][]int{{}}, seen{{0, 0}}, nil, api.ErrNone, 0, api.ErrNone}, {tableT(), seen{{0, 1}, {0, 1}}, nil, api.ErrTwice, 0, api.ErrTwice},
		{tableT(), seen{{0, 1}, {1, 1}, {0, 10}}, nil, api.ErrTwice, 0, api.ErrTwice}, {tableT(), seen{{0, 10}, {0, 1}}, nil, api.ErrRange, 0, api.ErrRange},
		{tableT(), seen{{0, -1}}, nil, api.ErrRange, 0, api.ErrRange}, {tableT(), seen{{0, 7}, {1, 10}}, nil, api.ErrRange, 0, api.ErrRange},
		{tableT(), seen{{0, 7}, {1, math.MinInt}, {3, 0}}, nil, api.ErrRange, 0, api.ErrRange}, {tableT(), seen{{math.MaxInt, 0}}, nil, api.ErrNone, 0, api.ErrNone},
		{tableT(), make(seen, 100000), nil, api.ErrTwice, 0, api.ErrTwice}, {tableT(), seen{{0, 0}, {0, 0}, {3, 0}}, nil, api.ErrTwice, 0, api.ErrTwice},
	} {
		if l, e := press.From(x.table, x.seen); !slices.Equal(l, x.want) || e != x.e {
			t.Errorf("From of %v, %v: %v %d, want %v %d", x.table, x.seen, l, e, x.want, x.e)
		}
		if n, e := press.Next(x.table, x.seen); n != x.measure || e != x.f {
			t.Errorf("Next of %v, %v: %d %d, want %d %d", x.table, x.seen, n, e, x.measure, x.f)
		}
	}
}
