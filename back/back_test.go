package back_test

import (
	"math"
	"slices"
	"testing"

	"spadille/api"
	"spadille/back"
)

// equal returns whether lists of lists are the same.
func equal(a, b [][]int) bool { return slices.EqualFunc(a, b, slices.Equal) }

// The limits are those of the chapter.
func TestLimits(t *testing.T) {
	if back.MaxSide != 4 || back.MaxColours != 4 || back.MaxGrids != 4096 {
		t.Error("a constant is not as the chapter gives it")
	}
}

// P3.1: the chapter's examples of Product, and numbers that are not turns.
func TestP3_1Product(t *testing.T) {
	for _, x := range []struct {
		first, second, want int
		e                   api.Errno
	}{
		{1, 1, 2, 0}, {1, 4, 6, 0}, {4, 1, 7, 0}, {0, 0, 0, 0}, {3, 1, 0, 0}, {6, 7, 2, 0},
		{-1, 0, 0, api.ErrNone}, {0, -1, 0, api.ErrNone}, {8, 1, 0, api.ErrNone}, {1, 8, 0, api.ErrNone},
		{math.MinInt, 4, 0, api.ErrNone}, {4, math.MaxInt, 0, api.ErrNone}, {9, 9, 0, api.ErrNone},
	} {
		if n, e := back.Product(x.first, x.second); n != x.want || e != x.e {
			t.Errorf("Product of %d and %d: %d %d", x.first, x.second, n, e)
		}
	}
}

// P3.1: which presses are valid, and which error the others have first (R1).
func TestP3_1Check(t *testing.T) {
	for _, x := range []struct {
		p back.Press
		e api.Errno
	}{
		{exampleP(), 0}, {exampleQ(), 0}, {press(1, 1, 1, 0), 0}, {press(4, 4, 4, 0, 1, 2, 3, 4, 5, 6, 7), 0},
		{press(4, 4, 1, 0, 2, 6, 7), 0}, {press(3, 4, 2, 0, 2, 4, 5), 0}, {press(1, 4, 2, 0, 4), 0}, {press(1, 1, 2, 0, 7), 0},
		{press(0, 2, 2, 0), api.ErrRange}, {press(5, 2, 2, 0), api.ErrRange}, {press(2, 0, 2, 0), api.ErrRange},
		{press(2, 5, 2, 0), api.ErrRange}, {press(2, 2, 0, 0), api.ErrRange}, {press(2, 2, 5, 0), api.ErrRange},
		{press(5, 5, 5, 9), api.ErrRange}, {press(2, 3, 5, 1), api.ErrRange}, {press(5, 2, 2), api.ErrRange},
		{press(2, 2, 2, 0, 8), api.ErrNone}, {press(2, 2, 2, -1, 0), api.ErrNone}, {press(2, 3, 2, math.MinInt), api.ErrNone},
		{press(2, 3, 2, 2, 0, 8), api.ErrOrder}, {press(2, 3, 2, 2, 1, 0, 8), api.ErrKind}, {press(2, 3, 2, 9, 1), api.ErrNone},
		{press(2, 3, 2, 0, 1), api.ErrKind}, {press(2, 3, 2, 0, 3), api.ErrKind}, {press(2, 3, 2, 0, 6), api.ErrKind},
		{press(2, 3, 2, 0, 7), api.ErrKind}, {press(3, 2, 2, 4, 3), api.ErrKind}, {press(3, 2, 2, 1, 1), api.ErrKind},
		{press(2, 2, 2, 0, 0), api.ErrOrder}, {press(2, 2, 2, 2, 0), api.ErrOrder}, {press(2, 2, 2, 0, 2, 1, 3), api.ErrOrder},
		{press(2, 2, 2), api.ErrOpen}, {press(2, 2, 2, 2), api.ErrOpen}, {press(2, 2, 2, 1, 2, 3), api.ErrOpen},
		{press(2, 2, 2, 0, 1), api.ErrOpen}, {press(2, 2, 2, 0, 1, 3), api.ErrOpen}, {press(1, 1, 1, 0, 1), api.ErrOpen},
		{press(2, 3, 2, 0, 2, 4), api.ErrOpen}, {press(2, 2, 2, 0, 4, 6), api.ErrOpen}, {press(2, 2, 2, 0, 1, 2, 3, 4, 5), api.ErrOpen},
		{press(2, 2, 2, make([]int, 100000)...), api.ErrOrder},
	} {
		if e := back.Check(x.p); e != x.e {
			t.Errorf("Check of %v: %d, want %d", x.p, e, x.e)
		}
	}
}

// answers calls all functions that get a press and a back, and returns their errors and whether they returned anything else.
func answers(p back.Press, b []int) (errors []api.Errno, more bool) {
	turned, e1 := back.Turn(p, b, 99)
	way, e2 := back.Alike(p, b, b)
	first, e3 := back.First(p, b)
	kin, e4 := back.Kin(p, b)
	stays, e5 := back.Stays(p, b)
	cells, e6 := back.Cells(p, b)
	e7 := back.Shows(p, b, list(-1))
	more = len(turned)+len(first)+len(kin)+len(stays)+len(cells) != 0 || way != 0
	return []api.Errno{e1, e2, e3, e4, e5, e6, e7}, more
}

// P3.1: all functions return at first the error of Check, and nothing else with it (R2).
func TestP3_1CheckFirst(t *testing.T) {
	for _, p := range wrong() {
		want := verdict(p)
		if e := back.Check(p); e != want || e == api.OK {
			t.Errorf("Check of %v: %d, want %d", p, e, want)
		}
		for _, b := range [][]int{nil, list(0, 1, 0, 1), list(0, 0, 0, 0, 0, 0), list(9, -9)} {
			errors, more := answers(p, b)
			staying, e1 := back.Staying(p, 99)
			count, e2 := back.Count(p)
			with, e3 := back.With(p, b)
			all, e4 := back.All(p)
			if more || staying != 0 || count != 0 || with != 0 || len(all) != 0 {
				t.Errorf("%v: results besides an error", p)
			}
			for i, e := range append(errors, e1, e2, e3, e4) {
				if e != want {
					t.Errorf("%v: error %d is %d, want %d", p, i, e, want)
				}
			}
		}
	}
}

// P3.1: then they return the error of a back, before any error of other arguments.
func TestP3_1Backs(t *testing.T) {
	good := list(0, 1, 1, 0)
	for _, x := range []struct {
		b []int
		e api.Errno
	}{
		{nil, api.ErrShape}, {list(), api.ErrShape}, {list(0, 1, 1), api.ErrShape}, {list(0, 1, 1, 0, 0), api.ErrShape},
		{list(9, 9, 9), api.ErrShape}, {list(-1, 0, 0, 0, 0), api.ErrShape}, {make([]int, 100000), api.ErrShape},
		{list(0, 1, 2, 0), api.ErrRange}, {list(-1, 0, 0, 0), api.ErrRange}, {list(0, 0, 0, 2), api.ErrRange},
		{list(0, math.MaxInt, 0, 0), api.ErrRange}, {list(0, 0, 0, math.MinInt), api.ErrRange},
	} {
		errors, more := answers(exampleP(), x.b)
		if more {
			t.Errorf("%v: results besides an error", x.b)
		}
		for i, e := range errors {
			if e != x.e {
				t.Errorf("%v: error %d is %d, want %d", x.b, i, e, x.e)
			}
		}
		if n, e := back.Alike(exampleP(), good, x.b); n != 0 || e != x.e {
			t.Errorf("Alike of %v and %v: %d %d", good, x.b, n, e)
		}
		if n, e := back.Alike(exampleP(), x.b, good); n != 0 || e != x.e {
			t.Errorf("Alike of %v and %v: %d %d", x.b, good, n, e)
		}
	}
	if n, e := back.Alike(exampleP(), list(0, 0, 0, 7), list(0)); n != 0 || e != api.ErrRange {
		t.Errorf("Alike of a wrong colour and a short back: %d %d", n, e)
	}
	if n, e := back.Alike(exampleP(), list(0), list(0, 0, 0, 7)); n != 0 || e != api.ErrShape {
		t.Errorf("Alike of a short back and a wrong colour: %d %d", n, e)
	}
	if e := back.Shows(press(2, 2, 1, 0), list(0, 0, 0, 1), nil); e != api.ErrRange {
		t.Errorf("Shows with the colour 1 of only one: %d", e)
	}
}

// P3.2: the chapter's examples of Turn and Alike, turns that are not those of the press, and backs that are not alike.
func TestP3_2Examples(t *testing.T) {
	for _, x := range []struct {
		p    back.Press
		b    []int
		turn int
		want []int
		e    api.Errno
	}{
		{exampleP(), list(0, 1, 0, 0), 1, list(0, 0, 0, 1), 0}, {exampleQ(), list(0, 0, 1, 0, 1, 1), 2, list(1, 1, 0, 1, 0, 0), 0},
		{exampleP(), list(0, 1, 0, 0), 0, list(0, 1, 0, 0), 0}, {exampleP(), list(0, 1, 0, 0), 3, list(1, 0, 0, 0), 0},
		{press(2, 3, 4, 0, 2, 4, 5), list(0, 1, 2, 3, 0, 1), 4, list(2, 1, 0, 1, 0, 3), 0},
		{press(2, 3, 4, 0, 2, 4, 5), list(0, 1, 2, 3, 0, 1), 5, list(3, 0, 1, 0, 1, 2), 0},
		{press(2, 2, 4, 0, 6), list(0, 1, 2, 3), 6, list(0, 2, 1, 3), 0}, {press(2, 2, 4, 0, 7), list(0, 1, 2, 3), 7, list(3, 1, 2, 0), 0},
		{exampleP(), list(0, 1, 0, 0), 4, nil, api.ErrNone}, {exampleP(), list(0, 1, 0, 0), -1, nil, api.ErrNone},
		{exampleP(), list(0, 1, 0, 0), 8, nil, api.ErrNone}, {exampleQ(), list(0, 0, 1, 0, 1, 1), 1, nil, api.ErrNone},
		{exampleQ(), list(0, 0, 1, 0, 1, 1), math.MaxInt, nil, api.ErrNone}, {exampleQ(), list(0, 0, 1, 0, 1, 1), math.MinInt, nil, api.ErrNone},
	} {
		if b, e := back.Turn(x.p, x.b, x.turn); !slices.Equal(b, x.want) || e != x.e {
			t.Errorf("Turn of %v, %v, %d: %v %d, want %v %d", x.p, x.b, x.turn, b, e, x.want, x.e)
		}
	}
	for _, x := range []struct {
		p    back.Press
		a, b []int
		want int
		e    api.Errno
	}{
		{exampleP(), list(0, 1, 0, 0), list(0, 0, 1, 0), 2, 0}, {exampleP(), list(0, 1, 0, 0), list(0, 0, 0, 1), 1, 0},
		{exampleP(), list(0, 0, 0, 1), list(0, 1, 0, 0), 3, 0}, {exampleP(), list(0, 1, 1, 0), list(1, 0, 0, 1), 1, 0},
		{exampleP(), list(1, 1, 1, 1), list(1, 1, 1, 1), 0, 0}, {press(2, 2, 2, 0, 4), list(0, 1, 0, 0), list(1, 0, 0, 0), 4, 0},
		{exampleP(), list(0, 1, 0, 0), list(1, 1, 0, 0), 0, api.ErrLost}, {press(2, 2, 2, 0), list(0, 1, 0, 0), list(0, 0, 1, 0), 0, api.ErrLost},
		{exampleP(), list(0, 0, 0, 0), list(1, 1, 1, 1), 0, api.ErrLost},
	} {
		if n, e := back.Alike(x.p, x.a, x.b); n != x.want || e != x.e {
			t.Errorf("Alike of %v, %v and %v: %d %d, want %d %d", x.p, x.a, x.b, n, e, x.want, x.e)
		}
	}
}

// P3.3: the chapter's examples of First, Kin and Stays.
func TestP3_3Examples(t *testing.T) {
	for _, x := range []struct {
		p     back.Press
		b     []int
		kin   [][]int
		stays []int
	}{
		{exampleP(), list(1, 0, 1, 0), [][]int{{0, 0, 1, 1}, {0, 1, 0, 1}, {1, 0, 1, 0}, {1, 1, 0, 0}}, list(0)},
		{exampleP(), list(0, 1, 1, 0), [][]int{{0, 1, 1, 0}, {1, 0, 0, 1}}, list(0, 2)},
		{exampleP(), list(1, 1, 1, 1), [][]int{{1, 1, 1, 1}}, list(0, 1, 2, 3)},
		{exampleQ(), list(1, 0, 0, 0, 0, 1), [][]int{{1, 0, 0, 0, 0, 1}}, list(0, 2)},
		{exampleQ(), list(1, 0, 0, 0, 0, 0), [][]int{{0, 0, 0, 0, 0, 1}, {1, 0, 0, 0, 0, 0}}, list(0)},
		{press(1, 1, 4, 0, 1, 2, 3, 4, 5, 6, 7), list(3), [][]int{{3}}, list(0, 1, 2, 3, 4, 5, 6, 7)},
		{press(1, 3, 2, 0, 2, 4, 5), list(1, 0, 0), [][]int{{0, 0, 1}, {1, 0, 0}}, list(0, 5)},
	} {
		if l, e := back.Kin(x.p, x.b); !equal(l, x.kin) || e != api.OK {
			t.Errorf("Kin of %v, %v: %v %d, want %v", x.p, x.b, l, e, x.kin)
		}
		if b, e := back.First(x.p, x.b); !slices.Equal(b, x.kin[0]) || e != api.OK {
			t.Errorf("First of %v, %v: %v %d, want %v", x.p, x.b, b, e, x.kin[0])
		}
		if l, e := back.Stays(x.p, x.b); !slices.Equal(l, x.stays) || e != api.OK {
			t.Errorf("Stays of %v, %v: %v %d, want %v", x.p, x.b, l, e, x.stays)
		}
	}
}

// P3.4: the chapter's examples of Staying and Count, presses up to the limits, and turns that are not those of the press.
func TestP3_4Examples(t *testing.T) {
	for _, x := range []struct {
		p     back.Press
		count int
	}{
		{exampleP(), 6}, {exampleQ(), 36}, {press(1, 1, 1, 0), 1}, {press(1, 1, 4, 0, 1, 2, 3, 4, 5, 6, 7), 4},
		{press(3, 3, 2, 0, 1, 2, 3), 140}, {press(3, 3, 2, 0, 1, 2, 3, 4, 5, 6, 7), 102},
		{press(4, 4, 2, 0, 1, 2, 3), 16456}, {press(4, 4, 2, 0, 1, 2, 3, 4, 5, 6, 7), 8548},
		{press(4, 4, 4, 0, 1, 2, 3), 1073758336}, {press(4, 4, 4, 0, 1, 2, 3, 4, 5, 6, 7), 537157696},
		{press(4, 4, 4, 0), 1 << 32}, {press(4, 4, 1, 0, 2), 1}, {press(1, 4, 3, 0, 2), 45},
	} {
		if n := mustCount(t, x.p); n != x.count {
			t.Errorf("Count of %v: %d, want %d", x.p, n, x.count)
		}
	}
	full := press(4, 4, 4, 0, 1, 2, 3, 4, 5, 6, 7)
	for _, x := range []struct {
		p          back.Press
		turn, want int
		e          api.Errno
	}{
		{exampleQ(), 2, 8, 0}, {exampleQ(), 0, 64, 0}, {exampleP(), 1, 2, 0}, {exampleP(), 2, 4, 0},
		{full, 0, 1 << 32, 0}, {full, 1, 256, 0}, {full, 2, 65536, 0}, {full, 3, 256, 0}, {full, 4, 65536, 0},
		{full, 5, 65536, 0}, {full, 6, 1 << 20, 0}, {full, 7, 1 << 20, 0},
		{exampleQ(), 1, 0, api.ErrNone}, {exampleQ(), 4, 0, api.ErrNone}, {exampleP(), 4, 0, api.ErrNone},
		{exampleP(), -1, 0, api.ErrNone}, {exampleP(), 8, 0, api.ErrNone}, {full, 8, 0, api.ErrNone},
		{full, math.MinInt, 0, api.ErrNone}, {full, math.MaxInt, 0, api.ErrNone},
	} {
		if n, e := back.Staying(x.p, x.turn); n != x.want || e != x.e {
			t.Errorf("Staying of %v, %d: %d %d, want %d %d", x.p, x.turn, n, e, x.want, x.e)
		}
	}
}

// P3.5: the chapter's examples of With, amounts that are not possible, and which error is first (R1).
func TestP3_5Examples(t *testing.T) {
	for _, x := range []struct {
		p     back.Press
		cells []int
		want  int
		e     api.Errno
	}{
		{exampleP(), list(2, 2), 2, 0}, {exampleQ(), list(3, 3), 10, 0}, {exampleP(), list(4, 0), 1, 0}, {exampleP(), list(0, 4), 1, 0},
		{exampleP(), list(1, 3), 1, 0}, {press(2, 2, 1, 0), list(4), 1, 0}, {press(4, 4, 4, 0), list(4, 4, 4, 4), 63063000, 0},
		{press(4, 4, 4, 0, 1, 2, 3), list(4, 4, 4, 4), 15766392, 0}, {press(4, 4, 2, 0, 2), list(8, 8), 6470, 0},
		{exampleP(), nil, 0, api.ErrShape}, {exampleP(), list(4), 0, api.ErrShape}, {exampleP(), list(2, 2, 0), 0, api.ErrShape},
		{exampleP(), list(9, -9, 4), 0, api.ErrShape}, {exampleP(), list(-1), 0, api.ErrShape},
		{exampleP(), list(-1, 5), 0, api.ErrRange}, {exampleP(), list(5, 0), 0, api.ErrRange}, {exampleP(), list(5, -1), 0, api.ErrRange},
		{exampleP(), list(3, -1), 0, api.ErrRange}, {exampleP(), list(math.MaxInt, math.MinInt), 0, api.ErrRange},
		{exampleP(), list(math.MinInt, 2), 0, api.ErrRange}, {exampleP(), list(4, math.MaxInt), 0, api.ErrRange},
		{exampleP(), list(4, 1), 0, api.ErrSum}, {exampleP(), list(0, 0), 0, api.ErrSum}, {exampleP(), list(4, 4), 0, api.ErrSum},
		{exampleP(), list(1, 2), 0, api.ErrSum}, {press(2, 2, 1, 0), list(3), 0, api.ErrSum}, {press(2, 2, 1, 0), list(5), 0, api.ErrRange},
	} {
		if n, e := back.With(x.p, x.cells); n != x.want || e != x.e {
			t.Errorf("With of %v, %v: %d %d, want %d %d", x.p, x.cells, n, e, x.want, x.e)
		}
	}
}

// P3.6: all different backs of a small press, and presses that have just 4096 backs, or more.
func TestP3_6Examples(t *testing.T) {
	want := [][]int{{0, 0, 0, 0}, {0, 0, 0, 1}, {0, 0, 1, 1}, {0, 1, 1, 0}, {0, 1, 1, 1}, {1, 1, 1, 1}}
	if all, e := back.All(exampleP()); !equal(all, want) || e != api.OK {
		t.Errorf("All: %v %d", all, e)
	}
	for _, x := range []struct {
		p    back.Press
		many int
		e    api.Errno
	}{
		{press(2, 3, 4, 0), 4096, 0}, {press(3, 4, 2, 0), 4096, 0}, {press(4, 3, 2, 0, 2), 2080, 0}, {press(4, 4, 1, 0, 2), 1, 0},
		{press(3, 3, 2, 0, 1, 2, 3, 4, 5, 6, 7), 102, 0}, {press(1, 1, 3, 0), 3, 0}, {press(2, 3, 3, 0, 4), 405, 0},
		{press(2, 4, 3, 0), 0, api.ErrFull}, {press(4, 4, 2, 0, 1, 2, 3), 0, api.ErrFull}, {press(2, 4, 4, 0), 0, api.ErrFull},
		{press(4, 4, 4, 0, 1, 2, 3, 4, 5, 6, 7), 0, api.ErrFull}, {press(3, 3, 3, 0), 0, api.ErrFull}, {press(3, 4, 3, 0), 0, api.ErrFull},
	} {
		if all, e := back.All(x.p); len(all) != x.many || e != x.e {
			t.Errorf("All of %v: %d backs %d, want %d %d", x.p, len(all), e, x.many, x.e)
		}
	}
}

// P3.7: the chapter's examples of Cells, lists that show all turns, and others, and which error is first (R1).
func TestP3_7Examples(t *testing.T) {
	full := press(2, 2, 4, 0, 1, 2, 3, 4, 5, 6, 7)
	for _, x := range []struct {
		p          back.Press
		b, want    []int
		proof, bad []int
	}{
		{exampleP(), list(0, 1, 0, 0), list(1), list(1, 3), list(0)}, {exampleQ(), list(1, 0, 0, 0, 0, 1), nil, list(5), nil},
		{exampleP(), list(0, 0, 0, 0), nil, list(0, 1, 2, 3), nil}, {exampleP(), list(0, 1, 1, 0), list(0), list(3), list()},
		{exampleQ(), list(1, 0, 0, 0, 0, 0), list(0), list(5), list(1, 2, 3, 4)},
		{full, list(0, 1, 2, 3), list(0, 1), list(2, 3), list(0)},
		{full, list(0, 0, 0, 1), list(3), list(0, 1, 2), list(1, 2)},
		{press(1, 1, 4, 0, 1, 2, 3), list(2), nil, list(0), nil},
	} {
		if l, e := back.Cells(x.p, x.b); !slices.Equal(l, x.want) || e != api.OK {
			t.Errorf("Cells of %v, %v: %v %d, want %v", x.p, x.b, l, e, x.want)
		}
		if e := back.Shows(x.p, x.b, x.proof); e != api.OK {
			t.Errorf("Shows of %v, %v, %v: %d", x.p, x.b, x.proof, e)
		}
		want := api.ErrProof
		if len(x.want) == 0 {
			want = api.OK
		}
		if e := back.Shows(x.p, x.b, x.bad); e != want {
			t.Errorf("Shows of %v, %v, %v: %d, want %d", x.p, x.b, x.bad, e, want)
		}
	}
	for _, x := range []struct {
		cells []int
		e     api.Errno
	}{
		{list(4), api.ErrNone}, {list(-1), api.ErrNone}, {list(1, 4), api.ErrNone}, {list(0, math.MaxInt), api.ErrNone},
		{list(math.MinInt), api.ErrNone}, {list(1, -1), api.ErrNone}, {list(1, 4, 0), api.ErrNone}, {list(0, -1), api.ErrNone},
		{list(1, 1), api.ErrOrder}, {list(1, 0), api.ErrOrder}, {list(1, 0, 4), api.ErrOrder}, {list(0, 0), api.ErrOrder},
		{make([]int, 100000), api.ErrOrder}, {list(0), api.ErrProof}, {nil, api.ErrProof}, {list(), api.ErrProof},
		{list(2, 3), api.ErrProof}, {list(1), 0}, {list(0, 1, 2, 3), 0}, {list(0, 1), 0},
	} {
		if e := back.Shows(exampleP(), list(0, 1, 0, 0), x.cells); e != x.e {
			t.Errorf("Shows of %v: %d, want %d", x.cells, e, x.e)
		}
	}
}
