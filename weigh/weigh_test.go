package weigh_test

import (
	"math"
	"slices"
	"testing"

	"spadille/api"
	"spadille/weigh"
)

// The limits, kinds and outcomes are those of the chapter.
func TestLimits(t *testing.T) {
	if weigh.MaxCards != 14 || weigh.MaxWeighings != 4 {
		t.Error("a limit is not as the chapter gives it")
	}
	if weigh.Good != 0 || weigh.Heavy != 1 || weigh.Light != 2 || weigh.Both != 3 {
		t.Error("a kind is not as the chapter gives it")
	}
	if weigh.Even != 0 || weigh.Left != 1 || weigh.Right != 2 {
		t.Error("an outcome is not as the chapter gives it")
	}
}

// P4.1: which cases are valid, and which error the others have first (R1).
func TestP4_1Check(t *testing.T) {
	for _, x := range []struct {
		kinds []int
		e     api.Errno
	}{
		{list(3), 0}, {list(1), 0}, {list(2), 0}, {list(0, 1), 0}, {list(0, 0, 2), 0}, {times(3, 14), 0}, {append(times(0, 13), 1), 0},
		{nil, api.ErrEmpty}, {list(), api.ErrEmpty}, {times(3, 15), api.ErrMany}, {times(0, 15), api.ErrMany}, {times(7, 15), api.ErrMany},
		{make([]int, 100000), api.ErrMany}, {list(4), api.ErrKind}, {list(-1), api.ErrKind}, {list(3, 3, 4), api.ErrKind},
		{list(0, -1, 0), api.ErrKind}, {list(math.MaxInt), api.ErrKind}, {list(3, math.MinInt), api.ErrKind}, {append(times(3, 13), 4), api.ErrKind},
		{list(0), api.ErrNone}, {list(0, 0), api.ErrNone}, {times(0, 14), api.ErrNone},
	} {
		if e := weigh.Check(x.kinds); e != x.e {
			t.Errorf("Check of %v: %d, want %d", x.kinds, e, x.e)
		}
	}
}

// answers calls all functions of a case, and returns their errors and whether they returned anything else.
func answers(kinds []int, w weigh.Weighing) (errors []api.Errno, more bool) {
	guesses, e1 := weigh.Guesses(kinds)
	outcome, e2 := weigh.Shows(kinds, w, heavy(-1))
	after, e3 := weigh.After(kinds, w, 9)
	found, e4 := weigh.Found(kinds)
	fewest, e5 := weigh.Fewest(kinds)
	best, e6 := weigh.Best(kinds)
	more = len(guesses)+outcome+len(after)+fewest+len(best.Left)+len(best.Right) != 0 || found != weigh.Guess{}
	return []api.Errno{e1, e2, e3, e4, e5, e6}, more
}

// P4.1: all functions of a case return at first the error of Check, and nothing else with it (R2).
func TestP4_1CheckFirst(t *testing.T) {
	for _, kinds := range wrong() {
		want := verdict(kinds)
		if e := weigh.Check(kinds); e != want || e == api.OK {
			t.Errorf("Check of %v: %d, want %d", kinds, e, want)
		}
		for _, w := range []weigh.Weighing{{}, against(0, 1), against(0, 0), against(-1, 99)} {
			errors, more := answers(kinds, w)
			if more {
				t.Errorf("%v: results besides an error", kinds)
			}
			for i, e := range errors {
				if e != want {
					t.Errorf("%v: error %d is %d, want %d", kinds, i, e, want)
				}
			}
		}
	}
}

// P4.1: the chapter's example of Guesses, and others.
func TestP4_1Guesses(t *testing.T) {
	for _, x := range []struct {
		kinds []int
		want  []weigh.Guess
	}{
		{list(1, 3), []weigh.Guess{heavy(0), light(1), heavy(1)}},
		{list(3), []weigh.Guess{light(0), heavy(0)}},
		{list(2), []weigh.Guess{light(0)}},
		{list(0, 2, 0, 1), []weigh.Guess{light(1), heavy(3)}},
		{append(times(0, 13), 1), []weigh.Guess{heavy(13)}},
		{times(3, 14), allGuesses(14)},
	} {
		if l, e := weigh.Guesses(x.kinds); !slices.Equal(l, x.want) || e != api.OK {
			t.Errorf("Guesses of %v: %v %d, want %v", x.kinds, l, e, x.want)
		}
	}
}

// P4.1: Found returns the only possible guess, and none if there are more.
func TestP4_1Found(t *testing.T) {
	for _, x := range []struct {
		kinds []int
		want  weigh.Guess
		e     api.Errno
	}{
		{list(1), heavy(0), 0}, {list(2), light(0), 0}, {list(0, 0, 1), heavy(2), 0}, {list(0, 2, 0), light(1), 0},
		{list(3), light(0), api.ErrOpen}, {list(1, 1), light(0), api.ErrOpen}, {list(0, 1, 2), light(0), api.ErrOpen}, {list(3, 0), light(0), api.ErrOpen},
	} {
		if g, e := weigh.Found(x.kinds); g != x.want || e != x.e {
			t.Errorf("Found of %v: %v %d, want %v %d", x.kinds, g, e, x.want, x.e)
		}
	}
}

// wrongWeighings are weighings of three cards that are not valid, and their errors.
func wrongWeighings() []struct {
	w weigh.Weighing
	e api.Errno
} {
	return []struct {
		w weigh.Weighing
		e api.Errno
	}{
		{against(0, 3), api.ErrNone}, {against(3, 0), api.ErrNone}, {against(-1, 0), api.ErrNone}, {against(0, -1), api.ErrNone},
		{against(math.MinInt, math.MaxInt), api.ErrNone}, {against(0, math.MaxInt), api.ErrNone},
		{against(0, 0), api.ErrTwice}, {weigh.Weighing{Left: list(1, 1), Right: list(0, 2)}, api.ErrTwice},
		{weigh.Weighing{Left: list(0, 1), Right: list(2, 2)}, api.ErrTwice}, {weigh.Weighing{Left: list(0, 1), Right: list(2, 1)}, api.ErrTwice},
		{weigh.Weighing{Left: list(0, 0, 3), Right: list(1)}, api.ErrTwice}, {weigh.Weighing{Left: list(3, 0, 0), Right: list(1)}, api.ErrNone},
		{weigh.Weighing{Left: list(0, 0), Right: list(-1, 1)}, api.ErrTwice}, {weigh.Weighing{Left: list(0, 1), Right: list(0, -1)}, api.ErrTwice},
		{weigh.Weighing{Left: list(0, 1), Right: list(-1, 0)}, api.ErrNone}, {weigh.Weighing{Left: list(0, 1), Right: list(3)}, api.ErrNone},
		{weigh.Weighing{Left: list(0), Right: list(1, 1)}, api.ErrTwice}, {weigh.Weighing{}, api.ErrShape},
		{weigh.Weighing{Left: list(0)}, api.ErrShape}, {weigh.Weighing{Right: list(0)}, api.ErrShape},
		{weigh.Weighing{Left: list(0, 1), Right: list(2)}, api.ErrShape}, {weigh.Weighing{Left: list(0), Right: list(1, 2)}, api.ErrShape},
		{weigh.Weighing{Left: list(2, 1, 0)}, api.ErrShape}, {weigh.Weighing{Left: make([]int, 100000)}, api.ErrTwice},
	}
}

// P4.2, P4.3, P4.5: all functions that are given weighings return their errors before those of other arguments.
func TestP4_2Errors(t *testing.T) {
	for _, x := range wrongWeighings() {
		if e := verdictOf(3, x.w); e != x.e {
			t.Fatalf("the error of %v is %d, or %d", x.w, e, x.e)
		}
		if n, e := weigh.Shows(list(3, 3, 3), x.w, heavy(9)); n != 0 || e != x.e {
			t.Errorf("Shows of %v: %d %d, want %d", x.w, n, e, x.e)
		}
		if l, e := weigh.After(list(3, 3, 3), x.w, 9); len(l) != 0 || e != x.e {
			t.Errorf("After of %v: %v %d, want %d", x.w, l, e, x.e)
		}
		for _, l := range [][]weigh.Weighing{{x.w}, {against(0, 1), x.w}, {against(0, 1), x.w, against(0, 0), {}}} {
			if n, e := weigh.Word(3, l, heavy(9)); len(n) != 0 || e != x.e {
				t.Errorf("Word of %v: %v %d, want %d", l, n, e, x.e)
			}
			if a, b, e := weigh.Apart(3, l); a != light(0) || b != light(0) || e != x.e {
				t.Errorf("Apart of %v: %v %v %d, want %d", l, a, b, e, x.e)
			}
		}
	}
}

// P4.3: the chapter's example of Shows, and guesses that are not possible.
func TestP4_3Shows(t *testing.T) {
	pairs := weigh.Weighing{Left: list(3, 0), Right: list(1, 4)}
	for _, x := range []struct {
		kinds []int
		w     weigh.Weighing
		g     weigh.Guess
		want  int
		e     api.Errno
	}{
		{list(3, 3, 3), against(0, 1), heavy(1), 2, 0}, {list(3, 3, 3), against(0, 1), light(1), 1, 0}, {list(3, 3, 3), against(0, 1), heavy(0), 1, 0},
		{list(3, 3, 3), against(0, 1), light(0), 2, 0}, {list(3, 3, 3), against(0, 1), heavy(2), 0, 0}, {list(3, 3, 3), against(0, 1), light(2), 0, 0},
		{times(3, 5), pairs, heavy(3), 1, 0}, {times(3, 5), pairs, light(0), 2, 0}, {times(3, 5), pairs, heavy(4), 2, 0}, {times(3, 5), pairs, light(1), 1, 0},
		{times(3, 5), pairs, light(2), 0, 0}, {list(0, 2, 1), against(0, 1), light(1), 1, 0}, {list(0, 2, 1), against(0, 1), heavy(2), 0, 0},
		{list(0, 2, 1), against(0, 1), heavy(1), 0, api.ErrLost}, {list(0, 2, 1), against(0, 1), light(2), 0, api.ErrLost},
		{list(0, 2, 1), against(0, 1), light(0), 0, api.ErrLost}, {list(0, 2, 1), against(0, 1), heavy(0), 0, api.ErrLost},
		{list(3, 3), against(0, 1), heavy(2), 0, api.ErrLost}, {list(3, 3), against(0, 1), light(-1), 0, api.ErrLost},
		{list(3, 3), against(0, 1), heavy(math.MaxInt), 0, api.ErrLost}, {list(3, 3), against(0, 1), heavy(math.MinInt), 0, api.ErrLost},
	} {
		if n, e := weigh.Shows(x.kinds, x.w, x.g); n != x.want || e != x.e {
			t.Errorf("Shows of %v, %v, %v: %d %d, want %d %d", x.kinds, x.w, x.g, n, e, x.want, x.e)
		}
	}
}

// P4.3: the chapter's examples of After, outcomes that are none, and outcomes that no possible guess has.
func TestP4_3After(t *testing.T) {
	for _, x := range []struct {
		kinds   []int
		outcome int
		want    []int
		e       api.Errno
	}{
		{list(3, 3, 3), 1, list(1, 2, 0), 0}, {list(3, 3, 3), 0, list(0, 0, 3), 0}, {list(3, 3, 3), 2, list(2, 1, 0), 0},
		{list(1, 1, 2), 1, list(1, 0, 0), 0}, {list(1, 1, 2), 2, list(0, 1, 0), 0}, {list(1, 1, 2), 0, list(0, 0, 2), 0},
		{list(2, 1, 1), 2, list(2, 1, 0), 0}, {list(0, 3, 3), 1, list(0, 2, 0), 0}, {list(3, 0, 0), 2, list(2, 0, 0), 0},
		{list(1, 2, 2), 2, nil, api.ErrLost}, {list(3, 3, 0), 0, nil, api.ErrLost}, {list(3, 3), 0, nil, api.ErrLost}, {list(0, 0, 1), 1, nil, api.ErrLost},
		{list(0, 0, 1), 2, nil, api.ErrLost}, {list(3, 3, 3), -1, nil, api.ErrKind}, {list(3, 3, 3), 3, nil, api.ErrKind}, {list(0, 0, 1), 3, nil, api.ErrKind},
		{list(3, 3, 3), math.MaxInt, nil, api.ErrKind}, {list(3, 3, 3), math.MinInt, nil, api.ErrKind},
	} {
		if l, e := weigh.After(x.kinds, against(0, 1), x.outcome); !slices.Equal(l, x.want) || e != x.e {
			t.Errorf("After of %v, %d: %v %d, want %v %d", x.kinds, x.outcome, l, e, x.want, x.e)
		}
	}
}

// P4.4: the chapter's examples of Fewest and Best, and others.
func TestP4_4Examples(t *testing.T) {
	none := weigh.Weighing{}
	for _, x := range []struct {
		kinds []int
		n     int
		e     api.Errno
		best  weigh.Weighing
		f     api.Errno
	}{
		{times(3, 12), 3, 0, weigh.Weighing{Left: list(0, 1, 2, 3), Right: list(4, 5, 6, 7)}, 0},
		{times(3, 13), 4, 0, weigh.Weighing{Left: list(0), Right: list(1)}, 0},
		{append(times(3, 13), 0), 3, 0, weigh.Weighing{Left: list(0, 1, 2, 3, 4), Right: list(5, 6, 7, 8, 13)}, 0},
		{append(list(0), times(3, 13)...), 3, 0, weigh.Weighing{Left: list(0, 1, 2, 3, 4), Right: list(5, 6, 7, 8, 9)}, 0},
		{list(3), 0, api.ErrLost, none, api.ErrLost}, {list(3, 3), 0, api.ErrLost, none, api.ErrLost}, {list(1, 2), 0, api.ErrLost, none, api.ErrLost},
		{list(3, 1), 0, api.ErrLost, none, api.ErrLost}, {list(2, 3), 0, api.ErrLost, none, api.ErrLost},
		{list(3, 0), 1, 0, against(0, 1), 0}, {list(0, 3), 1, 0, against(0, 1), 0}, {list(3, 3, 3), 2, 0, against(0, 1), 0},
		{list(1), 0, 0, none, api.ErrClash}, {list(0, 2, 0), 0, 0, none, api.ErrClash}, {list(1, 1), 1, 0, against(0, 1), 0},
		{list(1, 1, 1), 1, 0, against(0, 1), 0}, {list(1, 2, 2), 1, 0, against(1, 2), 0}, {list(1, 2, 0), 1, 0, against(0, 2), 0},
		{list(0, 0, 2, 2, 2, 0), 1, 0, weigh.Weighing{Left: list(0, 2), Right: list(1, 3)}, 0},
		{list(1, 1, 2, 2, 0, 3, 3), 2, 0, weigh.Weighing{Left: list(0, 2), Right: list(1, 5)}, 0},
		{times(1, 9), 2, 0, weigh.Weighing{Left: list(0, 1, 2), Right: list(3, 4, 5)}, 0},
	} {
		if n, e := weigh.Fewest(x.kinds); n != x.n || e != x.e {
			t.Errorf("Fewest of %v: %d %d, want %d %d", x.kinds, n, e, x.n, x.e)
		}
		if w, e := weigh.Best(x.kinds); !equal(w, x.best) || e != x.f {
			t.Errorf("Best of %v: %v %d, want %v %d", x.kinds, w, e, x.best, x.f)
		}
	}
}

// P4.5: the chapter's examples of Word and Apart, and others.
func TestP4_5Examples(t *testing.T) {
	two := []weigh.Weighing{against(0, 1), against(1, 2)}
	for _, x := range []struct {
		cards int
		l     []weigh.Weighing
		g     weigh.Guess
		want  []int
		e     api.Errno
	}{
		{3, two, light(1), list(1, 2), 0}, {3, two, heavy(1), list(2, 1), 0}, {3, two, heavy(0), list(1, 0), 0}, {3, two, light(2), list(0, 1), 0},
		{4, two, heavy(3), list(0, 0), 0}, {1, nil, light(0), nil, 0}, {14, nil, heavy(13), nil, 0}, {2, two[:1], light(1), list(1), 0},
		{3, slices.Repeat(two, 2), heavy(2), list(0, 2, 0, 2), 0},
		{3, two, light(3), nil, api.ErrNone}, {3, two, heavy(-1), nil, api.ErrNone}, {1, nil, heavy(1), nil, api.ErrNone}, {3, nil, light(math.MinInt), nil, api.ErrNone},
	} {
		if l, e := weigh.Word(x.cards, x.l, x.g); !slices.Equal(l, x.want) || e != x.e {
			t.Errorf("Word of %d, %v, %v: %v %d, want %v %d", x.cards, x.l, x.g, l, e, x.want, x.e)
		}
	}
	for _, x := range []struct {
		cards int
		l     []weigh.Weighing
		a, b  weigh.Guess
		e     api.Errno
	}{
		{3, two, light(0), light(0), 0}, {3, two[:1], light(0), heavy(1), api.ErrClash}, {1, nil, light(0), heavy(0), api.ErrClash},
		{14, nil, light(0), heavy(0), api.ErrClash}, {4, two, light(3), heavy(3), api.ErrClash}, {3, two[1:], light(0), heavy(0), api.ErrClash},
		{5, two, light(3), heavy(3), api.ErrClash}, {4, []weigh.Weighing{against(0, 2), against(1, 3)}, light(0), heavy(2), api.ErrClash},
		{3, slices.Repeat(two, 2), light(0), light(0), 0},
	} {
		if a, b, e := weigh.Apart(x.cards, x.l); a != x.a || b != x.b || e != x.e {
			t.Errorf("Apart of %d, %v: %v %v %d, want %v %v %d", x.cards, x.l, a, b, e, x.a, x.b, x.e)
		}
	}
}

// P4.5: the errors of weighings fixed ahead, each before the next one.
func TestP4_5Errors(t *testing.T) {
	many := slices.Repeat([]weigh.Weighing{against(0, 1)}, 5)
	for _, x := range []struct {
		cards int
		l     []weigh.Weighing
		e     api.Errno
	}{
		{0, nil, api.ErrRange}, {-1, nil, api.ErrRange}, {15, nil, api.ErrRange}, {math.MaxInt, many, api.ErrRange}, {math.MinInt, many, api.ErrRange},
		{15, many[:1], api.ErrRange}, {2, many, api.ErrMany}, {14, slices.Repeat(many, 9), api.ErrMany}, {1, many, api.ErrMany},
		{2, slices.Repeat([]weigh.Weighing{{}}, 5), api.ErrMany}, {1, many[:4], api.ErrNone}, {1, []weigh.Weighing{{}}, api.ErrShape},
		{3, []weigh.Weighing{against(0, 1), {}, against(0, 0)}, api.ErrShape}, {3, []weigh.Weighing{against(0, 1), against(0, 0), {}}, api.ErrTwice},
	} {
		if l, e := weigh.Word(x.cards, x.l, heavy(99)); len(l) != 0 || e != x.e {
			t.Errorf("Word of %d, %v: %v %d, want %d", x.cards, x.l, l, e, x.e)
		}
		if a, b, e := weigh.Apart(x.cards, x.l); a != light(0) || b != light(0) || e != x.e {
			t.Errorf("Apart of %d, %v: %v %v %d, want %d", x.cards, x.l, a, b, e, x.e)
		}
	}
}

// P4.6: the chapter's examples of Fixed and Most, and numbers outside.
func TestP4_6Examples(t *testing.T) {
	for _, x := range []struct {
		cards, weighings int
		e                api.Errno
	}{
		{12, 3, 0}, {13, 3, api.ErrLost}, {14, 4, 0}, {3, 2, 0}, {4, 2, api.ErrLost}, {3, 4, 0}, {1, 4, api.ErrLost}, {2, 4, api.ErrLost},
		{3, 1, api.ErrLost}, {1, 1, api.ErrLost}, {14, 3, api.ErrLost}, {0, 3, api.ErrRange}, {15, 4, api.ErrRange}, {12, 0, api.ErrRange}, {12, 5, api.ErrRange},
		{-1, -1, api.ErrRange}, {math.MaxInt, 3, api.ErrRange}, {12, math.MaxInt, api.ErrRange}, {math.MinInt, 3, api.ErrRange}, {12, math.MinInt, api.ErrRange},
	} {
		l, e := weigh.Fixed(x.cards, x.weighings)
		if e != x.e || e != api.OK && len(l) != 0 || e == api.OK && len(l) != x.weighings {
			t.Errorf("Fixed of %d, %d: %v %d, want %d", x.cards, x.weighings, l, e, x.e)
		}
	}
	for _, x := range []struct {
		weighings int
		good      bool
		want      int
		e         api.Errno
	}{
		{3, false, 12, 0}, {3, true, 13, 0}, {1, false, 0, 0}, {1, true, 1, 0}, {2, false, 3, 0}, {2, true, 4, 0}, {4, false, 39, 0}, {4, true, 40, 0},
		{0, true, 0, api.ErrRange}, {0, false, 0, api.ErrRange}, {5, true, 0, api.ErrRange}, {5, false, 0, api.ErrRange},
		{-1, true, 0, api.ErrRange}, {math.MaxInt, false, 0, api.ErrRange}, {math.MinInt, true, 0, api.ErrRange},
	} {
		if n, e := weigh.Most(x.weighings, x.good); n != x.want || e != x.e {
			t.Errorf("Most of %d, %v: %d %d, want %d %d", x.weighings, x.good, n, e, x.want, x.e)
		}
	}
}
