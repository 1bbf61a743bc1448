package stamp_test

import (
	"math"
	"slices"
	"testing"

	"spadille/api"
	"spadille/stamp"
)

// invalid returns books with an error, and the error.
func invalid() []struct {
	b stamp.Books
	e api.Errno
} {
	many := books(2)
	for range stamp.MaxWays + 1 {
		many.Ways = append(many.Ways, stamp.Way{From: 0, To: 1, Least: 0, Most: 1})
	}
	manyBad := clone(many)
	manyBad.Ways[0].From = 7
	manyRooms := clone(manyBad)
	manyRooms.Rooms = 7
	return []struct {
		b stamp.Books
		e api.Errno
	}{
		{stamp.Books{}, api.ErrRange},
		{books(1), api.ErrRange},
		{books(7), api.ErrRange},
		{books(-3), api.ErrRange},
		{books(math.MaxInt), api.ErrRange},
		{books(math.MinInt), api.ErrRange},
		{books(1, 0, 1, 0, 1), api.ErrRange},
		{manyRooms, api.ErrRange},
		{many, api.ErrMany},
		{manyBad, api.ErrMany},
		{books(2, 2, 0, 0, 1), api.ErrNone},
		{books(2, 0, 2, 0, 1), api.ErrNone},
		{books(2, -1, 0, 0, 1), api.ErrNone},
		{books(2, 0, -1, 0, 1), api.ErrNone},
		{books(6, 0, 6, 0, 1), api.ErrNone},
		{books(2, math.MaxInt, math.MinInt, 0, 1), api.ErrNone},
		{books(2, 2, 2, 0, 1), api.ErrNone},
		{books(2, 0, 2, 5, 4), api.ErrNone},
		{books(2, 0, 0, 0, 1), api.ErrClash},
		{books(2, 1, 1, 5, 4), api.ErrClash},
		{books(2, 1, 1, -1, 100), api.ErrClash},
		{books(2, 0, 1, -1, 1), api.ErrRange},
		{books(2, 0, 1, -2, -1), api.ErrRange},
		{books(2, 0, 1, 0, -1), api.ErrRange},
		{books(2, 0, 1, 0, 100), api.ErrRange},
		{books(2, 0, 1, 100, 100), api.ErrRange},
		{books(2, 0, 1, 5, 4), api.ErrRange},
		{books(2, 0, 1, math.MinInt, math.MaxInt), api.ErrRange},
		{books(2, 0, 1, 0, 1, 0, 0, 0, 1), api.ErrClash},
		{books(2, 0, 1, 5, 4, 0, 2, 0, 1), api.ErrRange},
		{books(2, 1, 1, 0, 1, 0, 2, 0, 1), api.ErrClash},
		{books(2, 0, 2, 0, 1, 1, 1, 0, 1), api.ErrNone},
	}
}

// P1.1: which books are valid, and which error the others have.
func TestP1_1Check(t *testing.T) {
	full := books(6)
	for i := range stamp.MaxWays {
		full.Ways = append(full.Ways, stamp.Way{From: i % 6, To: (i + 1) % 6, Least: 0, Most: 99})
	}
	for _, b := range []stamp.Books{exampleB(), exampleC(), books(2), books(6), full, books(2, 0, 1, 0, 0), books(2, 1, 0, 99, 99), books(6, 5, 0, 0, 99), books(2, 0, 1, 0, 1, 0, 1, 0, 1, 1, 0, 3, 3)} {
		if e := stamp.Check(b); e != api.OK {
			t.Errorf("Check of %v: %d", b, e)
		}
	}
	for _, x := range invalid() {
		if e := stamp.Check(x.b); e != x.e {
			t.Errorf("Check of %v: %d, want %d", x.b, e, x.e)
		}
	}
}

// P1.1: all other functions return at first the error of Check, whatever else is wrong, and nothing besides it.
func TestP1_1CheckFirst(t *testing.T) {
	for _, x := range invalid() {
		is, can := stamp.Can(x.b)
		first, e1 := stamp.First(x.b)
		e2 := stamp.Verify(x.b, list(-5))
		other, e3 := stamp.Other(x.b, list(-5))
		against, e4 := stamp.Against(x.b)
		e5 := stamp.Proves(x.b, list(9, 9))
		lo, hi, e6 := stamp.Span(x.b, -1)
		spans, e7 := stamp.Spans(x.b)
		open, e8 := stamp.Open(x.b)
		says, e9 := stamp.Says(x.b, list(9, 9), -1)
		bound, e10 := stamp.Bound(x.b, 99, true)
		for i, e := range []api.Errno{can, e1, e2, e3, e4, e5, e6, e7, e8, e9, e10} {
			if e != x.e {
				t.Errorf("%v: function %d returned %d, want %d", x.b, i, e, x.e)
			}
		}
		if is || len(first)+len(other)+len(against)+len(spans)+len(open)+len(bound) != 0 || lo != 0 || hi != 0 || says != 0 {
			t.Errorf("%v: results besides an error", x.b)
		}
	}
}

// P1.1: Can tells whether there is a flow.
func TestP1_1Can(t *testing.T) {
	for _, x := range []struct {
		b    stamp.Books
		want bool
	}{
		{exampleB(), true},
		{exampleC(), false},
		{books(2), true},
		{books(2, 0, 1, 0, 5), true},
		{books(2, 0, 1, 1, 5), false},
		{books(2, 0, 1, 3, 3, 1, 0, 3, 3), true},
		{books(2, 0, 1, 3, 3, 1, 0, 4, 4), false},
		{books(2, 0, 1, 2, 3, 0, 1, 2, 3, 1, 0, 0, 4), true},
		{books(2, 0, 1, 2, 3, 0, 1, 2, 3, 1, 0, 0, 3), false},
	} {
		if is, e := stamp.Can(x.b); is != x.want || e != api.OK {
			t.Errorf("Can of %v: %v %d", x.b, is, e)
		}
	}
}

// P1.2: the first flow, what a flow is, and another one.
func TestP1_2Flows(t *testing.T) {
	if f, e := stamp.First(exampleB()); !slices.Equal(f, list(5, 5, 5)) || e != api.OK {
		t.Errorf("First: %v %d", f, e)
	}
	if f, e := stamp.First(exampleC()); len(f) != 0 || e != api.ErrLost {
		t.Errorf("First of books that do not agree: %v %d", f, e)
	}
	if f, e := stamp.First(books(5)); len(f) != 0 || e != api.OK {
		t.Errorf("First without ways: %v %d", f, e)
	}
	lone := books(3, 0, 1, 4, 4, 1, 0, 2, 5)
	for _, x := range []struct {
		b     stamp.Books
		flow  []int
		e     api.Errno
		other []int
		o     api.Errno
	}{
		{exampleB(), list(5, 5, 5), api.OK, list(6, 6, 6), api.OK},
		{exampleB(), list(6, 6, 6), api.OK, list(5, 5, 5), api.OK},
		{exampleB(), list(5, 6, 6), api.ErrSum, nil, api.ErrSum},
		{exampleB(), list(6, 5, 6), api.ErrSum, nil, api.ErrSum},
		{exampleB(), list(6, 6, 5), api.ErrSum, nil, api.ErrSum},
		{exampleB(), list(4, 4, 4), api.ErrRange, nil, api.ErrRange},
		{exampleB(), list(7, 7, 7), api.ErrRange, nil, api.ErrRange},
		{exampleB(), list(5, 5, 7), api.ErrRange, nil, api.ErrRange},
		{exampleB(), list(math.MaxInt, 5, math.MinInt), api.ErrRange, nil, api.ErrRange},
		{exampleB(), list(5, 5), api.ErrShape, nil, api.ErrShape},
		{exampleB(), list(4, 4, 4, 4), api.ErrShape, nil, api.ErrShape},
		{exampleB(), nil, api.ErrShape, nil, api.ErrShape},
		{exampleC(), list(5, 3, 4, 1), api.ErrSum, nil, api.ErrSum},
		{books(2), nil, api.OK, nil, api.ErrLost},
		{books(2), list(), api.OK, nil, api.ErrLost},
		{books(2), list(0), api.ErrShape, nil, api.ErrShape},
		{lone, list(4, 4), api.OK, nil, api.ErrLost},
		{books(2, 0, 1, 0, 3, 1, 0, 0, 3), list(2, 2), api.OK, list(0, 0), api.OK},
		{books(2, 0, 1, 0, 3, 1, 0, 0, 3), list(0, 0), api.OK, list(1, 1), api.OK},
		{books(2, 0, 1, 0, 3, 0, 1, 0, 3, 1, 0, 2, 2), list(0, 2, 2), api.OK, list(1, 1, 2), api.OK},
		{books(2, 0, 1, 0, 3, 0, 1, 0, 3, 1, 0, 2, 3), list(0, 2, 2), api.OK, list(0, 3, 3), api.OK},
	} {
		if e := stamp.Verify(x.b, x.flow); e != x.e {
			t.Errorf("Verify of %v, %v: %d, want %d", x.b, x.flow, e, x.e)
		}
		if o, e := stamp.Other(x.b, x.flow); !slices.Equal(o, x.other) || e != x.o {
			t.Errorf("Other of %v, %v: %v %d, want %v %d", x.b, x.flow, o, e, x.other, x.o)
		}
	}
}

// P1.3: rooms that prove that books do not agree.
func TestP1_3Rooms(t *testing.T) {
	for _, x := range []struct {
		b    stamp.Books
		want []int
		e    api.Errno
	}{
		{exampleC(), list(0, 2), api.OK},
		{exampleB(), nil, api.ErrClash},
		{books(2), nil, api.ErrClash},
		{books(4, 2, 3, 1, 5), list(2), api.OK},
		{books(4, 0, 3, 1, 1, 1, 3, 1, 1), list(0), api.OK},
		{books(4, 0, 1, 3, 3, 1, 0, 2, 2), list(0), api.OK},
		{books(4, 0, 1, 1, 1, 1, 0, 2, 2), list(1), api.OK},
		{books(4, 0, 1, 0, 9, 1, 0, 0, 9, 2, 3, 0, 9, 3, 2, 0, 9, 1, 2, 1, 2), list(0, 1), api.OK},
	} {
		if l, e := stamp.Against(x.b); !slices.Equal(l, x.want) || e != x.e {
			t.Errorf("Against %v: %v %d, want %v %d", x.b, l, e, x.want, x.e)
		}
	}
	for _, x := range []struct {
		b     stamp.Books
		rooms []int
		e     api.Errno
	}{
		{exampleC(), list(0, 2), api.OK},
		{exampleC(), list(1), api.ErrProof},
		{exampleC(), list(0), api.ErrProof},
		{exampleC(), list(0, 1, 2), api.ErrProof},
		{exampleC(), nil, api.ErrProof},
		{exampleC(), list(), api.ErrProof},
		{exampleB(), list(0, 2), api.ErrProof},
		{exampleC(), list(3), api.ErrNone},
		{exampleC(), list(-1), api.ErrNone},
		{exampleC(), list(0, math.MaxInt), api.ErrNone},
		{exampleC(), list(math.MinInt, 1), api.ErrNone},
		{exampleC(), list(2, 0), api.ErrOrder},
		{exampleC(), list(0, 0), api.ErrOrder},
		{exampleC(), list(0, 2, 2), api.ErrOrder},
		{exampleC(), list(2, 0, 3), api.ErrOrder},
		{exampleC(), list(0, 3, 1), api.ErrNone},
		{exampleC(), list(2, -1), api.ErrNone},
		{books(4, 2, 3, 1, 5), list(0, 1, 2), api.OK},
		{books(4, 2, 3, 1, 5), list(3), api.ErrProof},
		{books(2, 0, 1, 2, 2, 1, 0, 1, 2), list(0), api.ErrProof},
		{books(2, 0, 1, 3, 3, 1, 0, 1, 2), list(0), api.OK},
	} {
		if e := stamp.Proves(x.b, x.rooms); e != x.e {
			t.Errorf("Proves of %v, %v: %d, want %d", x.b, x.rooms, e, x.e)
		}
	}
}

// P1.4: how few and how many stamps can have gone each way.
func TestP1_4Spans(t *testing.T) {
	for _, x := range []struct {
		b    stamp.Books
		want [][2]int
		open []int
	}{
		{exampleB(), [][2]int{{5, 6}, {5, 6}, {5, 6}}, list(0, 1, 2)},
		{books(2), nil, nil},
		{books(3, 0, 1, 0, 9), [][2]int{{0, 0}}, nil},
		{books(3, 0, 1, 2, 4, 1, 0, 0, 9, 1, 2, 0, 9), [][2]int{{2, 4}, {2, 4}, {0, 0}}, list(0, 1)},
		{books(2, 0, 1, 7, 7, 1, 0, 0, 99), [][2]int{{7, 7}, {7, 7}}, nil},
		{books(2, 0, 1, 0, 99, 0, 1, 0, 99, 1, 0, 0, 99), [][2]int{{0, 99}, {0, 99}, {0, 99}}, list(0, 1, 2)},
		{books(2, 0, 1, 99, 99, 0, 1, 0, 99, 1, 0, 0, 99), [][2]int{{99, 99}, {0, 0}, {99, 99}}, nil},
	} {
		if l, e := stamp.Spans(x.b); !slices.Equal(l, x.want) || e != api.OK {
			t.Errorf("Spans of %v: %v %d, want %v", x.b, l, e, x.want)
		}
		if l, e := stamp.Open(x.b); !slices.Equal(l, x.open) || e != api.OK {
			t.Errorf("Open of %v: %v %d, want %v", x.b, l, e, x.open)
		}
		for i, w := range x.want {
			if lo, hi, e := stamp.Span(x.b, i); [2]int{lo, hi} != w || e != api.OK {
				t.Errorf("Span of %v, %d: %d %d %d, want %v", x.b, i, lo, hi, e, w)
			}
		}
	}
	for _, x := range []struct {
		b   stamp.Books
		way int
		e   api.Errno
	}{
		{exampleB(), 3, api.ErrNone},
		{exampleB(), -1, api.ErrNone},
		{exampleB(), math.MaxInt, api.ErrNone},
		{exampleB(), math.MinInt, api.ErrNone},
		{books(2), 0, api.ErrNone},
		{exampleC(), 4, api.ErrNone},
		{exampleC(), 0, api.ErrLost},
		{exampleC(), 3, api.ErrLost},
	} {
		if lo, hi, e := stamp.Span(x.b, x.way); lo != 0 || hi != 0 || e != x.e {
			t.Errorf("Span of %v, %d: %d %d %d, want %d", x.b, x.way, lo, hi, e, x.e)
		}
	}
	spans, e := stamp.Spans(exampleC())
	if open, f := stamp.Open(exampleC()); len(spans)+len(open) != 0 || e != api.ErrLost || f != api.ErrLost {
		t.Errorf("Spans and Open of books that do not agree: %v %d, %v %d", spans, e, open, f)
	}
}

// P1.5: what rooms say of a way.
func TestP1_5Says(t *testing.T) {
	for _, x := range []struct {
		b     stamp.Books
		rooms []int
		way   int
		want  int
		e     api.Errno
	}{
		{exampleB(), list(1), 1, 9, api.OK},
		{exampleB(), list(0, 1), 1, 6, api.OK},
		{exampleB(), list(2), 1, 4, api.OK},
		{exampleB(), list(0), 0, 6, api.OK},
		{exampleB(), list(0), 2, 5, api.OK},
		{exampleB(), list(2), 0, 0, api.ErrLost},
		{exampleB(), list(0, 1), 0, 0, api.ErrLost},
		{exampleB(), list(0, 1, 2), 0, 0, api.ErrLost},
		{exampleB(), nil, 0, 0, api.ErrLost},
		{exampleC(), list(0, 2), 0, 4, api.OK},
		{exampleC(), list(1), 0, 0, api.OK},
		{books(2, 0, 1, 1, 2, 0, 1, 7, 8), list(0), 0, -7, api.OK},
		{books(2, 0, 1, 1, 2, 0, 1, 7, 8), list(1), 0, -8, api.OK},
		{exampleB(), list(0), 3, 0, api.ErrNone},
		{exampleB(), list(2, 0), -1, 0, api.ErrNone},
		{exampleB(), list(0, 3), 0, 0, api.ErrNone},
		{exampleB(), list(1, 0), 0, 0, api.ErrOrder},
		{exampleB(), list(1, 1), 0, 0, api.ErrOrder},
		{exampleB(), list(1, 0, 3), 0, 0, api.ErrOrder},
		{exampleB(), list(1, 3, 0), 0, 0, api.ErrNone},
		{exampleB(), list(1, -1), 0, 0, api.ErrNone},
		{exampleB(), list(2, 2), 0, 0, api.ErrOrder},
	} {
		if n, e := stamp.Says(x.b, x.rooms, x.way); n != x.want || e != x.e {
			t.Errorf("Says of %v, %v, %d: %d %d, want %d %d", x.b, x.rooms, x.way, n, e, x.want, x.e)
		}
	}
}

// P1.5: rooms that prove an end of a span.
func TestP1_5Bound(t *testing.T) {
	for _, x := range []struct {
		b        stamp.Books
		way      int
		greatest bool
		want     []int
		e        api.Errno
	}{
		{exampleB(), 0, true, list(0), api.OK},
		{exampleB(), 1, true, list(0, 1), api.OK},
		{exampleB(), 2, false, list(0), api.OK},
		{exampleB(), 0, false, nil, api.OK},
		{exampleB(), 2, true, nil, api.OK},
		{exampleB(), 1, false, list(0, 2), api.OK},
		{books(3, 0, 1, 0, 9), 0, true, list(0), api.OK},
		{books(3, 0, 1, 0, 9), 0, false, nil, api.OK},
		{books(3, 2, 1, 0, 9), 0, true, list(2), api.OK},
		{exampleC(), 0, true, nil, api.ErrLost},
		{exampleC(), 0, false, nil, api.ErrLost},
		{exampleC(), 4, true, nil, api.ErrNone},
		{exampleB(), 3, false, nil, api.ErrNone},
		{exampleB(), -1, true, nil, api.ErrNone},
		{exampleB(), math.MinInt, true, nil, api.ErrNone},
		{books(2), 0, false, nil, api.ErrNone},
	} {
		if l, e := stamp.Bound(x.b, x.way, x.greatest); !slices.Equal(l, x.want) || e != x.e {
			t.Errorf("Bound of %v, %d, %v: %v %d, want %v %d", x.b, x.way, x.greatest, l, e, x.want, x.e)
		}
	}
}
