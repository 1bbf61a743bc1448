package shuffle_test

import (
	"math"
	"slices"
	"testing"

	"spadille/api"
	"spadille/shuffle"
)

// The limits and kinds are those of the chapter.
func TestLimits(t *testing.T) {
	if shuffle.MaxCards != 10 || shuffle.MaxHeaps != 16 || shuffle.Out != 0 || shuffle.In != 1 {
		t.Error("a constant is not as the chapter gives it")
	}
}

// P5.1: which packs are valid, and which error the others have first (R1).
func TestP5_1Check(t *testing.T) {
	for _, x := range []struct {
		pack []int
		e    api.Errno
	}{
		{list(0), 0}, {list(1, 0), 0}, {list(0, 2, 1, 3, 4), 0}, {sorted(10), 0}, {list(9, 8, 7, 6, 5, 4, 3, 2, 1, 0), 0},
		{nil, api.ErrEmpty}, {list(), api.ErrEmpty}, {sorted(11), api.ErrMany}, {make([]int, 11), api.ErrMany},
		{make([]int, 100000), api.ErrMany}, {slices.Repeat(list(-1), 12), api.ErrMany},
		{list(1), api.ErrNone}, {list(-1), api.ErrNone}, {list(0, 2), api.ErrNone}, {list(2, 0, 3), api.ErrNone},
		{list(math.MinInt, 1), api.ErrNone}, {list(0, math.MaxInt), api.ErrNone}, {append(sorted(9), 10), api.ErrNone},
		{list(0, 0), api.ErrTwice}, {list(1, 0, 1), api.ErrTwice}, {make([]int, 10), api.ErrTwice},
		{list(0, 0, 3), api.ErrTwice}, {list(3, 0, 0), api.ErrNone}, {list(0, 1, 1, -1), api.ErrTwice}, {list(0, 4, 0, 0), api.ErrNone},
		{list(-1, -1), api.ErrNone}, {list(2, 1, 2, 3), api.ErrTwice}, {append(sorted(9), 8), api.ErrTwice},
	} {
		if e := shuffle.Check(x.pack); e != x.e {
			t.Errorf("Check of %v: %d, want %d", x.pack, e, x.e)
		}
	}
}

// answers calls all functions that are given a pack, with other arguments that are wrong as well or not,
// and returns their errors and whether they returned anything else.
func answers(pack, riffle []int, heaps, kind int) (errors []api.Errno, more bool) {
	riffled, e1 := shuffle.Riffle(pack, riffle, heaps)
	rising, e2 := shuffle.Rising(pack)
	ways, e3 := shuffle.Ways(pack, heaps)
	first, e4 := shuffle.First(pack, heaps)
	fewest, e5 := shuffle.Fewest(pack)
	riffles, e6 := shuffle.Riffles(pack)
	perfect, e7 := shuffle.Perfect(pack, kind)
	more = len(riffled)+len(rising)+len(first)+len(riffles)+len(perfect)+ways+fewest != 0
	return []api.Errno{e1, e2, e3, e4, e5, e6, e7}, more
}

// P5.1: all functions return at first the error of Check, and nothing else with it (R2).
func TestP5_1CheckFirst(t *testing.T) {
	for _, pack := range wrong() {
		want := verdict(pack)
		if e := shuffle.Check(pack); e != want || e == api.OK {
			t.Errorf("Check of %v: %d, want %d", pack, e, want)
		}
		for _, riffle := range [][]int{nil, {9}, make([]int, len(pack)), slices.Repeat(list(-1), len(pack))} {
			for _, n := range append(odd(), 2) {
				errors, more := answers(pack, riffle, n, n)
				if more {
					t.Fatalf("%v: results besides an error", pack)
				}
				for i, e := range errors {
					if e != want {
						t.Fatalf("%v: error %d is %d, want %d", pack, i, e, want)
					}
				}
			}
		}
	}
}

// P5.1: the chapter's examples of Riffle, and its errors in their order.
func TestP5_1Riffle(t *testing.T) {
	for _, x := range []struct {
		pack, riffle []int
		heaps        int
		want         []int
		e            api.Errno
	}{
		{sorted(5), list(0, 1, 0, 1, 1), 2, list(0, 2, 1, 3, 4), 0},
		{list(3, 1, 2, 0), list(2, 0, 0, 1), 3, list(0, 3, 1, 2), 0},
		{list(0), list(0), 1, list(0), 0}, {list(0), list(15), 16, list(0), 0},
		{list(1, 0), list(1, 0), 2, list(0, 1), 0}, {list(1, 0), list(15, 3), 16, list(0, 1), 0}, {list(2, 0, 1), list(0, 0, 0), 1, list(2, 0, 1), 0},
		{list(2, 0, 1), list(2, 2, 2), 3, list(2, 0, 1), 0}, {list(2, 0, 1), list(2, 1, 0), 3, list(1, 0, 2), 0},
		{list(0, 1), list(0, 1), 0, nil, api.ErrRange}, {list(0, 1), list(0, 1), 17, nil, api.ErrRange},
		{list(0, 1), list(0), -1, nil, api.ErrRange}, {list(0, 1), nil, math.MaxInt, nil, api.ErrRange},
		{list(0, 1), list(9, 9), math.MinInt, nil, api.ErrRange},
		{list(0, 1), nil, 2, nil, api.ErrShape}, {list(0, 1), list(), 2, nil, api.ErrShape}, {list(0, 1), list(0), 2, nil, api.ErrShape},
		{list(0, 1), list(0, 1, 0), 2, nil, api.ErrShape}, {list(0, 1), list(2), 2, nil, api.ErrShape},
		{list(0, 1), list(-1, 2, 3), 2, nil, api.ErrShape}, {list(0, 1), make([]int, 100000), 2, nil, api.ErrShape},
		{list(0, 1), list(0, 2), 2, nil, api.ErrNone}, {list(0, 1), list(-1, 0), 2, nil, api.ErrNone}, {list(0, 1), list(1, 0), 1, nil, api.ErrNone},
		{list(0, 1), list(0, 16), 16, nil, api.ErrNone}, {list(0, 1), list(math.MinInt, 0), 16, nil, api.ErrNone},
		{list(0, 1), list(0, math.MaxInt), 16, nil, api.ErrNone},
	} {
		if l, e := shuffle.Riffle(x.pack, x.riffle, x.heaps); !slices.Equal(l, x.want) || e != x.e {
			t.Errorf("Riffle of %v, %v, %d: %v %d, want %v %d", x.pack, x.riffle, x.heaps, l, e, x.want, x.e)
		}
	}
}

// P5.2: the chapter's examples of Rising, and others.
func TestP5_2Rising(t *testing.T) {
	for _, x := range []struct {
		pack []int
		want [][]int
	}{
		{list(0, 2, 1, 3, 4), [][]int{{0, 1}, {2, 3, 4}}},
		{list(3, 1, 2, 0), [][]int{{0}, {1, 2}, {3}}},
		{list(0), [][]int{{0}}}, {list(1, 0), [][]int{{0}, {1}}}, {list(0, 1), [][]int{{0, 1}}},
		{sorted(10), [][]int{sorted(10)}},
		{list(9, 8, 7, 6, 5, 4, 3, 2, 1, 0), [][]int{{0}, {1}, {2}, {3}, {4}, {5}, {6}, {7}, {8}, {9}}},
		{list(5, 0, 6, 1, 7, 2, 8, 3, 9, 4), [][]int{{0, 1, 2, 3, 4}, {5, 6, 7, 8, 9}}},
	} {
		if l, e := shuffle.Rising(x.pack); !equal(l, x.want) || e != api.OK {
			t.Errorf("Rising of %v: %v %d, want %v", x.pack, l, e, x.want)
		}
	}
}

// P5.3: the chapter's examples of Ways and First, and their errors.
func TestP5_3Examples(t *testing.T) {
	for _, x := range []struct {
		pack  []int
		heaps int
		ways  int
		first []int
		e, f  api.Errno
	}{
		{list(0, 2, 1, 3, 4), 2, 1, list(0, 1, 0, 1, 1), 0, 0},
		{list(0, 2, 1, 3, 4), 3, 6, list(0, 1, 0, 1, 1), 0, 0},
		{list(0, 1, 2, 3, 4), 2, 6, list(0, 0, 0, 0, 0), 0, 0},
		{list(3, 1, 2, 0), 2, 0, nil, 0, api.ErrLost},
		{list(3, 1, 2, 0), 3, 1, list(2, 1, 1, 0), 0, 0},
		{list(0), 1, 1, list(0), 0, 0}, {list(0), 16, 16, list(0), 0, 0}, {list(1, 0), 1, 0, nil, 0, api.ErrLost},
		{sorted(10), 1, 1, make([]int, 10), 0, 0}, {sorted(10), 16, 3268760, make([]int, 10), 0, 0},
		{list(9, 8, 7, 6, 5, 4, 3, 2, 1, 0), 10, 1, list(9, 8, 7, 6, 5, 4, 3, 2, 1, 0), 0, 0},
		{list(9, 8, 7, 6, 5, 4, 3, 2, 1, 0), 9, 0, nil, 0, api.ErrLost},
		{list(9, 8, 7, 6, 5, 4, 3, 2, 1, 0), 16, 8008, list(9, 8, 7, 6, 5, 4, 3, 2, 1, 0), 0, 0},
		{list(1, 0), 0, 0, nil, api.ErrRange, api.ErrRange}, {list(1, 0), 17, 0, nil, api.ErrRange, api.ErrRange},
		{list(1, 0), -1, 0, nil, api.ErrRange, api.ErrRange}, {list(0), math.MaxInt, 0, nil, api.ErrRange, api.ErrRange},
		{list(0), math.MinInt, 0, nil, api.ErrRange, api.ErrRange},
	} {
		if n, e := shuffle.Ways(x.pack, x.heaps); n != x.ways || e != x.e {
			t.Errorf("Ways of %v, %d: %d %d, want %d %d", x.pack, x.heaps, n, e, x.ways, x.e)
		}
		if l, e := shuffle.First(x.pack, x.heaps); !slices.Equal(l, x.first) || e != x.f {
			t.Errorf("First of %v, %d: %v %d, want %v %d", x.pack, x.heaps, l, e, x.first, x.f)
		}
	}
}

// P5.4: the chapter's example of Fewest, and others; no riffle is needed for the sorted pack.
func TestP5_4Examples(t *testing.T) {
	for _, x := range []struct {
		pack []int
		want int
	}{
		{list(3, 1, 2, 0), 2}, {list(0), 0}, {sorted(10), 0}, {list(1, 0), 1}, {list(0, 2, 1, 3, 4), 1}, {list(2, 1, 0), 2},
		{list(3, 2, 1, 0), 2}, {list(4, 3, 2, 1, 0), 3}, {list(7, 6, 5, 4, 3, 2, 1, 0), 3}, {list(8, 7, 6, 5, 4, 3, 2, 1, 0), 4},
		{list(9, 8, 7, 6, 5, 4, 3, 2, 1, 0), 4}, {list(5, 0, 6, 1, 7, 2, 8, 3, 9, 4), 1},
	} {
		n, e := shuffle.Fewest(x.pack)
		l, f := shuffle.Riffles(x.pack)
		if n != x.want || e != api.OK || len(l) != x.want || f != api.OK {
			t.Errorf("Fewest of %v: %d %d, Riffles: %v %d, want %d", x.pack, n, e, l, f, x.want)
		}
	}
}

// P5.5: the chapter's example of Joined, and its errors in their order.
func TestP5_5Examples(t *testing.T) {
	for _, x := range []struct {
		one   []int
		heaps int
		two   []int
		more  int
		want  []int
		e     api.Errno
	}{
		{list(0, 1, 0), 2, list(1, 0, 0), 2, list(1, 0, 2), 0},
		{list(0), 1, list(0), 1, list(0), 0}, {list(3), 4, list(3), 4, list(15), 0}, {list(15), 16, list(0), 1, list(15), 0},
		{list(0), 1, list(15), 16, list(15), 0}, {list(7), 8, list(1), 2, list(15), 0},
		{list(0, 1), 0, list(0, 1), 2, nil, api.ErrRange}, {list(0, 1), 2, list(0, 1), 0, nil, api.ErrRange},
		{list(0, 1), 17, list(0, 1), 1, nil, api.ErrRange}, {list(0, 1), 2, list(0, 1), 17, nil, api.ErrRange},
		{list(0, 1), 3, list(0, 1), 6, nil, api.ErrRange}, {list(0, 1), 2, list(0, 1), 9, nil, api.ErrRange},
		{list(0, 1), -2, list(0, 1), -2, nil, api.ErrRange}, {list(0, 1), 1 << 32, list(0, 1), 1 << 32, nil, api.ErrRange},
		{list(0, 1), math.MinInt, list(0, 1), math.MinInt, nil, api.ErrRange}, {list(0, 1), math.MaxInt, list(0, 1), 2, nil, api.ErrRange},
		{nil, 17, nil, 1, nil, api.ErrRange}, {make([]int, 11), 0, nil, 1, nil, api.ErrRange}, {list(9), 1, nil, -1, nil, api.ErrRange},
		{nil, 2, nil, 2, nil, api.ErrEmpty}, {list(), 2, list(0), 2, nil, api.ErrEmpty}, {nil, 2, make([]int, 11), 2, nil, api.ErrEmpty},
		{make([]int, 11), 2, make([]int, 11), 2, nil, api.ErrMany}, {make([]int, 11), 2, nil, 2, nil, api.ErrMany},
		{make([]int, 100000), 2, list(9), 2, nil, api.ErrMany}, {slices.Repeat(list(2), 11), 2, list(9), 2, nil, api.ErrMany},
		{list(0, 1), 2, nil, 2, nil, api.ErrShape}, {list(0, 1), 2, list(0), 2, nil, api.ErrShape}, {list(0, 1), 2, list(0, 1, 0), 2, nil, api.ErrShape},
		{list(0, 2), 2, list(0), 2, nil, api.ErrShape}, {list(0, 1), 2, make([]int, 100000), 2, nil, api.ErrShape}, {list(0), 2, list(9, 9), 2, nil, api.ErrShape},
		{list(0, 2), 2, list(0, 0), 3, nil, api.ErrNone}, {list(0, -1), 2, list(0, 0), 2, nil, api.ErrNone},
		{list(0, 0), 3, list(2, 0), 2, nil, api.ErrNone}, {list(0, 0), 2, list(0, -1), 2, nil, api.ErrNone},
		{list(math.MaxInt, 0), 4, list(0, 0), 4, nil, api.ErrNone}, {list(0, 0), 4, list(0, math.MinInt), 4, nil, api.ErrNone},
	} {
		if l, e := shuffle.Joined(x.one, x.heaps, x.two, x.more); !slices.Equal(l, x.want) || e != x.e {
			t.Errorf("Joined of %v, %d, %v, %d: %v %d, want %v %d", x.one, x.heaps, x.two, x.more, l, e, x.want, x.e)
		}
	}
}

// P5.6: the chapter's examples of Packs, and its errors.
func TestP5_6Examples(t *testing.T) {
	for _, x := range []struct {
		cards, rows, want int
		e                 api.Errno
	}{
		{3, 1, 1, 0}, {3, 2, 4, 0}, {3, 3, 1, 0}, {3, 0, 0, 0}, {1, 0, 0, 0}, {1, 1, 1, 0}, {2, 1, 1, 0}, {2, 2, 1, 0}, {4, 2, 11, 0},
		{10, 0, 0, 0}, {10, 1, 1, 0}, {10, 2, 1013, 0}, {10, 5, 1310354, 0}, {10, 6, 1310354, 0}, {10, 10, 1, 0},
		{0, 0, 0, api.ErrRange}, {-1, 0, 0, api.ErrRange}, {11, 5, 0, api.ErrRange}, {3, 4, 0, api.ErrRange}, {3, -1, 0, api.ErrRange},
		{10, 11, 0, api.ErrRange}, {1, 2, 0, api.ErrRange}, {math.MaxInt, math.MaxInt, 0, api.ErrRange},
		{math.MinInt, math.MinInt, 0, api.ErrRange}, {5, math.MinInt, 0, api.ErrRange}, {5, math.MaxInt, 0, api.ErrRange},
	} {
		if n, e := shuffle.Packs(x.cards, x.rows); n != x.want || e != x.e {
			t.Errorf("Packs of %d, %d: %d %d, want %d %d", x.cards, x.rows, n, e, x.want, x.e)
		}
	}
}

// P5.7: the chapter's examples of Perfect, and its errors in their order.
func TestP5_7Perfect(t *testing.T) {
	for _, x := range []struct {
		pack []int
		kind int
		want []int
		e    api.Errno
	}{
		{sorted(6), shuffle.Out, list(0, 3, 1, 4, 2, 5), 0}, {sorted(6), shuffle.In, list(3, 0, 4, 1, 5, 2), 0},
		{list(1, 0), shuffle.Out, list(1, 0), 0}, {list(1, 0), shuffle.In, list(0, 1), 0},
		{list(3, 1, 0, 2), shuffle.Out, list(3, 0, 1, 2), 0}, {list(3, 1, 0, 2), shuffle.In, list(0, 3, 2, 1), 0},
		{list(1, 0), 2, nil, api.ErrKind}, {list(1, 0), -1, nil, api.ErrKind}, {list(1, 0), math.MaxInt, nil, api.ErrKind},
		{list(0), 2, nil, api.ErrKind}, {list(2, 1, 0), math.MinInt, nil, api.ErrKind},
		{list(0), shuffle.Out, nil, api.ErrShape}, {list(0), shuffle.In, nil, api.ErrShape},
		{list(2, 1, 0), shuffle.Out, nil, api.ErrShape}, {sorted(9), shuffle.In, nil, api.ErrShape},
	} {
		if l, e := shuffle.Perfect(x.pack, x.kind); !slices.Equal(l, x.want) || e != x.e {
			t.Errorf("Perfect of %v, %d: %v %d, want %v %d", x.pack, x.kind, l, e, x.want, x.e)
		}
	}
}

// P5.7: the chapter's examples of Round, and its errors in their order.
func TestP5_7Round(t *testing.T) {
	for _, x := range []struct {
		cards, kind, want int
		e                 api.Errno
	}{
		{6, shuffle.Out, 4, 0}, {6, shuffle.In, 3, 0}, {2, shuffle.Out, 1, 0}, {2, shuffle.In, 2, 0}, {10, shuffle.Out, 6, 0}, {10, shuffle.In, 10, 0},
		{1, 0, 0, api.ErrRange}, {0, 0, 0, api.ErrRange}, {11, 0, 0, api.ErrRange}, {12, 0, 0, api.ErrRange}, {-2, 0, 0, api.ErrRange},
		{1, 2, 0, api.ErrRange}, {math.MaxInt, 0, 0, api.ErrRange}, {math.MinInt, 9, 0, api.ErrRange},
		{3, 0, 0, api.ErrShape}, {9, 1, 0, api.ErrShape}, {5, 2, 0, api.ErrShape}, {7, -1, 0, api.ErrShape},
		{2, 2, 0, api.ErrKind}, {10, -1, 0, api.ErrKind}, {4, math.MaxInt, 0, api.ErrKind}, {4, math.MinInt, 0, api.ErrKind},
	} {
		if n, e := shuffle.Round(x.cards, x.kind); n != x.want || e != x.e {
			t.Errorf("Round of %d, %d: %d %d, want %d %d", x.cards, x.kind, n, e, x.want, x.e)
		}
	}
}

// P5.7: the chapter's examples of Bring, and its errors in their order.
func TestP5_7Bring(t *testing.T) {
	for _, x := range []struct {
		cards, from, to int
		want            []int
		e               api.Errno
	}{
		{8, 0, 6, list(1, 1, 0), 0}, {6, 5, 0, list(1, 0, 1), 0}, {2, 0, 1, list(1), 0}, {2, 1, 0, list(1), 0},
		{2, 0, 0, nil, 0}, {2, 1, 1, nil, 0}, {10, 9, 9, nil, 0}, {10, 4, 4, nil, 0}, {10, 0, 1, list(1), 0},
		{1, 0, 0, nil, api.ErrRange}, {0, 0, 0, nil, api.ErrRange}, {11, 0, 0, nil, api.ErrRange}, {12, 0, 13, nil, api.ErrRange},
		{-2, 0, 0, nil, api.ErrRange}, {math.MaxInt, -1, 0, nil, api.ErrRange}, {math.MinInt, 0, 0, nil, api.ErrRange},
		{3, 0, 0, nil, api.ErrShape}, {9, 9, 9, nil, api.ErrShape}, {5, -1, 0, nil, api.ErrShape},
		{6, 6, 0, nil, api.ErrNone}, {6, 0, 6, nil, api.ErrNone}, {6, -1, 0, nil, api.ErrNone}, {6, 0, -1, nil, api.ErrNone},
		{6, math.MaxInt, math.MaxInt, nil, api.ErrNone}, {6, math.MinInt, math.MinInt, nil, api.ErrNone}, {6, 7, 7, nil, api.ErrNone},
	} {
		if l, e := shuffle.Bring(x.cards, x.from, x.to); !slices.Equal(l, x.want) || e != x.e {
			t.Errorf("Bring of %d, %d, %d: %v %d, want %v %d", x.cards, x.from, x.to, l, e, x.want, x.e)
		}
	}
}
