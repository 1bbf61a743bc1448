package table_test

import (
	"math"
	"slices"
	"testing"

	"spadille/api"
	"spadille/table"
)

// The limits are those of the chapter.
func TestLimits(t *testing.T) {
	if table.MaxLanes != 7 || table.MaxComparators != 24 || table.MaxFinish != 4 {
		t.Error("a limit is not as the chapter gives it")
	}
}

// P7.1: which tables are valid, and which error the others have first (R1).
func TestP7_1Check(t *testing.T) {
	one := [2]int{0, 1}
	full := slices.Repeat([][2]int{one}, 24)
	many := slices.Repeat([][2]int{{9, 9}}, 25)
	for _, x := range []struct {
		table table.Table
		e     api.Errno
	}{
		{tableB(), 0}, {tableC(), 0}, {of(1), 0}, {of(7), 0}, {of(7, full...), 0}, {of(2, full...), 0}, {of(7, [2]int{0, 6}, [2]int{5, 6}), 0},
		{of(0), api.ErrRange}, {of(8), api.ErrRange}, {of(-1), api.ErrRange}, {of(math.MaxInt), api.ErrRange}, {of(math.MinInt, many...), api.ErrRange},
		{of(0, many...), api.ErrRange}, {of(8, one), api.ErrRange}, {of(7, append(full, one)...), api.ErrMany}, {of(1, many...), api.ErrMany},
		{of(1, one), api.ErrNone}, {of(1, [2]int{0, 0}), api.ErrOrder}, {of(2, [2]int{0, 2}), api.ErrNone}, {of(2, [2]int{2, 0}), api.ErrNone},
		{of(2, [2]int{-1, 1}), api.ErrNone}, {of(2, [2]int{1, -1}), api.ErrNone}, {of(2, [2]int{1, 0}), api.ErrOrder}, {of(2, [2]int{1, 1}), api.ErrOrder},
		{of(2, [2]int{2, 2}), api.ErrNone}, {of(3, one, [2]int{1, 0}, [2]int{0, 3}), api.ErrOrder}, {of(3, one, [2]int{0, 3}, [2]int{1, 0}), api.ErrNone},
		{of(3, [2]int{3, 2}, [2]int{1, 1}), api.ErrNone}, {of(7, [2]int{6, 7}), api.ErrNone}, {of(7, [2]int{math.MinInt, math.MaxInt}), api.ErrNone},
	} {
		if e := table.Check(x.table); e != x.e {
			t.Errorf("Check of %v: %d, want %d", x.table, e, x.e)
		}
	}
}

// answers calls all functions but Check, with other arguments that are wrong as well or not,
// and returns their errors and whether they returned anything else.
func answers(x table.Table, row []int, lane, upper int) (errors []api.Errno, more bool) {
	run, e1 := table.Run(x, row)
	sorts, e2 := table.Sorts(x)
	unsorted, e3 := table.Unsorted(x)
	e4 := table.Fails(x, row)
	outcomes, e5 := table.Outcomes(x)
	idle, e6 := table.Idle(x)
	needed, e7 := table.Needed(x)
	layers, e8 := table.Layers(x)
	least, most, e9 := table.Place(x, lane)
	merges, e10 := table.Merges(x, upper)
	finish, e11 := table.Finish(x)
	more = len(run)+len(unsorted)+len(outcomes)+len(idle)+len(needed)+len(layers)+len(finish) != 0 || sorts || merges || least != 0 || most != 0
	return []api.Errno{e1, e2, e3, e4, e5, e6, e7, e8, e9, e10, e11}, more
}

// P7.1: all functions return at first the error of Check, and nothing else with it (R2).
func TestP7_1CheckFirst(t *testing.T) {
	for _, x := range wrong() {
		want := verdict(x)
		if e := table.Check(x); e != want || e == api.OK {
			t.Errorf("Check of %d lanes and %d comparators: %d, want %d", x.Lanes, len(x.Comparators), e, want)
		}
		for _, n := range append(odd(), 0, 1) {
			for _, row := range [][]int{nil, list(n), make([]int, min(max(x.Lanes, 0), 9)), make([]int, 100000)} {
				errors, more := answers(x, row, n, n)
				if more {
					t.Fatal("results besides an error")
				}
				for i, e := range errors {
					if e != want {
						t.Fatalf("error %d is %d, want %d", i, e, want)
					}
				}
			}
		}
	}
}

// P7.1, P7.2: the chapter's examples of Run and Fails, and others.
func TestP7_1Run(t *testing.T) {
	for _, x := range []struct {
		table     table.Table
		row, want []int
		e, f      api.Errno
	}{
		{tableB(), list(9, -1, 4), list(-1, 4, 9), 0, api.ErrProof}, {tableC(), list(4, 3, 2, 1), list(1, 2, 3, 4), 0, api.ErrProof},
		{tableC(), list(0, 1, 0, 1), list(0, 1, 0, 1), 0, 0}, {tableC(), list(1, 3, 2, 4), list(1, 3, 2, 4), 0, 0}, {tableC(), list(7, 7, 7, 7), list(7, 7, 7, 7), 0, api.ErrProof},
		{of(1), list(-5), list(-5), 0, api.ErrProof}, {of(2), list(1, 0), list(1, 0), 0, 0}, {of(2), list(1, 1), list(1, 1), 0, api.ErrProof},
		{of(2, [2]int{0, 1}), list(math.MaxInt, math.MinInt), list(math.MinInt, math.MaxInt), 0, api.ErrProof},
		{of(3, [2]int{0, 2}), list(math.MaxInt, 0, math.MinInt), list(math.MinInt, 0, math.MaxInt), 0, api.ErrProof},
		{of(3, [2]int{0, 2}), list(-1, -3, -2), list(-2, -3, -1), 0, 0}, {of(7), list(-7, -6, -5, -4, -3, -2, -1), list(-7, -6, -5, -4, -3, -2, -1), 0, api.ErrProof},
		{tableB(), nil, nil, api.ErrShape, api.ErrShape}, {tableB(), list(1, 2), nil, api.ErrShape, api.ErrShape}, {tableB(), list(2, 1, 0, 0), nil, api.ErrShape, api.ErrShape},
		{tableC(), make([]int, 7), nil, api.ErrShape, api.ErrShape}, {tableC(), make([]int, 100000), nil, api.ErrShape, api.ErrShape}, {of(1), nil, nil, api.ErrShape, api.ErrShape},
		{of(7), make([]int, 8), nil, api.ErrShape, api.ErrShape},
	} {
		if l, e := table.Run(x.table, x.row); !slices.Equal(l, x.want) || e != x.e {
			t.Errorf("Run of %v, %v: %v %d, want %v %d", x.table, x.row, l, e, x.want, x.e)
		}
		if e := table.Fails(x.table, x.row); e != x.f {
			t.Errorf("Fails of %v, %v: %d, want %d", x.table, x.row, e, x.f)
		}
	}
}

// P7.2: the chapter's examples of Sorts and Unsorted, and others.
func TestP7_2Sorts(t *testing.T) {
	for _, x := range []struct {
		table table.Table
		first []int
	}{
		{tableB(), nil}, {tableC(), list(0, 1, 0, 1)}, {behind(tableC(), [2]int{1, 2}), nil}, {of(1), nil}, {of(2), list(1, 0)}, {of(2, [2]int{0, 1}), nil},
		{of(3), list(0, 1, 0)}, {of(3, [2]int{0, 1}, [2]int{1, 2}), list(1, 1, 0)}, {of(3, [2]int{1, 2}, [2]int{0, 1}), list(1, 0, 0)},
		{of(3, [2]int{0, 2}), list(0, 1, 0)}, {bubbles(7), nil}, {of(7), list(0, 0, 0, 0, 0, 1, 0)}, {behind(of(7), bubbles(6).Comparators...), list(0, 0, 0, 0, 0, 1, 0)},
	} {
		if sorts := mustSorts(t, x.table); sorts != (x.first == nil) {
			t.Errorf("Sorts of %v: %v", x.table, sorts)
		}
		want := api.OK
		if x.first == nil {
			want = api.ErrClash
		}
		if l, e := table.Unsorted(x.table); !slices.Equal(l, x.first) || e != want {
			t.Errorf("Unsorted of %v: %v %d, want %v %d", x.table, l, e, x.first, want)
		}
	}
}

// P7.3: the chapter's examples of Outcomes, and others.
func TestP7_3Outcomes(t *testing.T) {
	for _, x := range []struct {
		table table.Table
		want  [][]int
	}{
		{tableB(), [][]int{{0, 0, 0}, {0, 0, 1}, {0, 1, 1}, {1, 1, 1}}},
		{tableC(), [][]int{{0, 0, 0, 0}, {0, 0, 0, 1}, {0, 0, 1, 1}, {0, 1, 0, 1}, {0, 1, 1, 1}, {1, 1, 1, 1}}},
		{of(1), [][]int{{0}, {1}}}, {of(2), [][]int{{0, 0}, {0, 1}, {1, 0}, {1, 1}}}, {of(2, [2]int{0, 1}), [][]int{{0, 0}, {0, 1}, {1, 1}}},
		{of(3, [2]int{0, 2}), [][]int{{0, 0, 0}, {0, 0, 1}, {0, 1, 0}, {0, 1, 1}, {1, 0, 1}, {1, 1, 1}}},
	} {
		if l := mustOutcomes(t, x.table); !equal(l, x.want) {
			t.Errorf("Outcomes of %v: %v, want %v", x.table, l, x.want)
		}
	}
	if n := len(mustOutcomes(t, of(7))); n != 128 {
		t.Errorf("%d outcomes", n)
	}
}

// P7.4: the chapter's examples of Idle, Needed and Layers, and others.
func TestP7_4Comparators(t *testing.T) {
	twice := of(2, [2]int{0, 1}, [2]int{0, 1})
	for _, x := range []struct {
		table        table.Table
		idle, needed []int
		e            api.Errno
		layers       [][]int
	}{
		{tableB(), nil, list(0, 1, 2), 0, [][]int{{0}, {1}, {2}}}, {tableC(), nil, nil, api.ErrLost, [][]int{{0, 1}, {2, 3}}},
		{behind(tableC(), [2]int{1, 2}), nil, list(0, 1, 2, 3, 4), 0, [][]int{{0, 1}, {2, 3}, {4}}}, {of(1), nil, nil, 0, nil}, {of(2), nil, nil, api.ErrLost, nil},
		{of(7), nil, nil, api.ErrLost, nil}, {twice, list(1), nil, 0, [][]int{{0}, {1}}}, {of(2, [2]int{0, 1}), nil, list(0), 0, [][]int{{0}}},
		{behind(tableB(), tableB().Comparators...), list(3, 4, 5), nil, 0, [][]int{{0}, {1}, {2}, {3}, {4}, {5}}},
		{behind(of(3, [2]int{0, 2}), tableB().Comparators...), list(3), list(2), 0, [][]int{{0}, {1}, {2}, {3}}},
		{of(3, [2]int{0, 1}, [2]int{1, 2}, [2]int{0, 2}), list(2), nil, api.ErrLost, [][]int{{0}, {1}, {2}}},
		{of(3, [2]int{1, 2}, [2]int{0, 2}, [2]int{0, 1}, [2]int{0, 2}), list(3), list(0, 1, 2), 0, [][]int{{0}, {1}, {2}, {3}}},
		{of(7, [2]int{0, 1}, [2]int{1, 2}, [2]int{3, 4}, [2]int{5, 6}, [2]int{4, 5}, [2]int{2, 6}, [2]int{0, 3}), nil, nil, api.ErrLost, [][]int{{0, 2, 3}, {1, 4, 6}, {5}}},
		{of(5, [2]int{3, 4}, [2]int{0, 1}, [2]int{0, 1}, [2]int{0, 1}, [2]int{1, 4}), list(2, 3), nil, api.ErrLost, [][]int{{0, 1}, {2}, {3}, {4}}},
	} {
		if l := mustIdle(t, x.table); !slices.Equal(l, x.idle) {
			t.Errorf("Idle of %v: %v, want %v", x.table, l, x.idle)
		}
		if l, e := table.Needed(x.table); !slices.Equal(l, x.needed) || e != x.e {
			t.Errorf("Needed of %v: %v %d, want %v %d", x.table, l, e, x.needed, x.e)
		}
		if l := mustLayers(t, x.table); !equal(l, x.layers) {
			t.Errorf("Layers of %v: %v, want %v", x.table, l, x.layers)
		}
	}
}

// P7.5: the chapter's examples of Place, others, and its errors.
func TestP7_5Place(t *testing.T) {
	for _, x := range []struct {
		table             table.Table
		lane, least, most int
		e                 api.Errno
	}{
		{tableC(), 0, 0, 0, 0}, {tableC(), 1, 1, 2, 0}, {tableC(), 2, 1, 2, 0}, {tableC(), 3, 3, 3, 0}, {tableB(), 1, 1, 1, 0}, {of(1), 0, 0, 0, 0},
		{of(2), 0, 0, 1, 0}, {of(2), 1, 0, 1, 0}, {of(7), 3, 0, 6, 0}, {of(3, [2]int{0, 1}), 0, 0, 1, 0}, {of(3, [2]int{0, 1}), 1, 1, 2, 0}, {of(3, [2]int{0, 1}), 2, 0, 2, 0},
		{of(7, [2]int{0, 6}), 0, 0, 5, 0}, {of(7, [2]int{0, 6}), 6, 1, 6, 0}, {bubbles(7), 4, 4, 4, 0},
		{tableC(), 4, 0, 0, api.ErrNone}, {tableC(), -1, 0, 0, api.ErrNone}, {of(1), 1, 0, 0, api.ErrNone}, {of(7), 7, 0, 0, api.ErrNone},
		{of(7), math.MaxInt, 0, 0, api.ErrNone}, {of(7), math.MinInt, 0, 0, api.ErrNone},
	} {
		if least, most, e := table.Place(x.table, x.lane); least != x.least || most != x.most || e != x.e {
			t.Errorf("Place of %v, %d: %d %d %d, want %d %d %d", x.table, x.lane, least, most, e, x.least, x.most, x.e)
		}
	}
}

// P7.6: the chapter's examples of Merges, others, and its errors.
func TestP7_6Merges(t *testing.T) {
	oddEven := of(4, [2]int{0, 2}, [2]int{1, 3}, [2]int{1, 2})
	for _, x := range []struct {
		table table.Table
		upper int
		want  bool
		e     api.Errno
	}{
		{tableC(), 2, false, 0}, {tableC(), 4, true, 0}, {tableC(), 0, true, 0}, {oddEven, 2, true, 0}, {oddEven, 1, false, 0}, {oddEven, 3, false, 0},
		{oddEven, 4, true, 0}, {of(1), 0, true, 0}, {of(1), 1, true, 0}, {of(2), 0, true, 0}, {of(2), 1, false, 0}, {of(2), 2, true, 0}, {of(7), 7, true, 0}, {of(7), 6, false, 0},
		{of(3, [2]int{0, 1}, [2]int{1, 2}), 1, true, 0}, {of(3, [2]int{0, 1}, [2]int{1, 2}), 2, false, 0}, {of(3, [2]int{1, 2}, [2]int{0, 1}), 2, true, 0},
		{bubbles(7), 3, true, 0}, {tableC(), 5, false, api.ErrRange}, {tableC(), -1, false, api.ErrRange}, {bubbles(7), 8, false, api.ErrRange}, {of(1), 2, false, api.ErrRange},
		{tableB(), math.MaxInt, false, api.ErrRange}, {tableB(), math.MinInt, false, api.ErrRange},
	} {
		if merges, e := table.Merges(x.table, x.upper); merges != x.want || e != x.e {
			t.Errorf("Merges of %v, %d: %v %d, want %v %d", x.table, x.upper, merges, e, x.want, x.e)
		}
	}
}

// P7.7, P7.14: the chapter's examples of Finish, others, and its errors.
func TestP7_7Finish(t *testing.T) {
	full := slices.Repeat([][2]int{{0, 1}}, 24)
	for _, x := range []struct {
		table table.Table
		want  [][2]int
		e     api.Errno
	}{
		{tableC(), [][2]int{{1, 2}}, 0}, {of(3), [][2]int{{0, 1}, {0, 2}, {1, 2}}, 0}, {tableB(), nil, 0}, {of(1), nil, 0}, {of(2), [][2]int{{0, 1}}, 0},
		{of(4), [][2]int{{0, 1}, {2, 3}, {0, 2}, {1, 3}, {1, 2}}, 0}, {of(2, full...), nil, 0}, {of(3, full...), [][2]int{{0, 2}, {1, 2}}, 0},
		{of(4, full...), [][2]int{{2, 3}, {0, 2}, {1, 3}, {1, 2}}, 0},
		{of(5), nil, api.ErrMany}, {bubbles(5), nil, api.ErrMany}, {of(7, full...), nil, api.ErrMany},
	} {
		if l, e := table.Finish(x.table); !slices.Equal(l, x.want) || e != x.e {
			t.Errorf("Finish of %v: %v %d, want %v %d", x.table, l, e, x.want, x.e)
		}
	}
}
