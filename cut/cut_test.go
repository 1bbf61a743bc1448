package cut_test

import (
	"math"
	"slices"
	"testing"

	"spadille/api"
	"spadille/cut"
)

// P2.1: the numbers of a sheet are from 1 to 6.
func TestP2_1Check(t *testing.T) {
	for _, s := range sheets() {
		if e := cut.Check(s); e != api.OK {
			t.Errorf("Check of %v: %d", s, e)
		}
	}
	for _, s := range wrong() {
		if e := cut.Check(s); e != api.ErrRange {
			t.Errorf("Check of %v: %d", s, e)
		}
	}
	if cut.MaxSide != 6 || cut.Side != 1 || cut.Colour != 2 {
		t.Error("a constant is not as the chapter gives it")
	}
}

// P2.1: all functions return at first the error of Check, and nothing else with it (R2).
func TestP2_1First(t *testing.T) {
	bad := []cut.Card{{Row: 9, Column: -9, Turned: true}}
	for _, s := range wrong() {
		can, e1 := cut.Can(s)
		fill, e2 := cut.Fill(s)
		count, e3 := cut.Count(s)
		least, most, e4 := cut.Upright(s)
		solid, e5 := cut.Solid(s)
		kind, k, e6 := cut.Against(s)
		if can || len(fill)+len(solid) != 0 || count != 0 || least != 0 || most != 0 || kind != 0 || k != 0 {
			t.Errorf("%v: results besides an error", s)
		}
		errors := []api.Errno{e1, e2, e3, e4, e5, e6}
		for _, l := range [][]cut.Card{nil, bad} {
			rows, columns, e7 := cut.Cuts(s, l)
			straight, e8 := cut.Straight(s, l)
			rounds, e9 := cut.Rounds(s, l)
			errors = append(errors, cut.Verify(s, l), e7, e8, e9)
			if len(rows)+len(columns) != 0 || straight || rounds != 0 {
				t.Errorf("%v: results besides an error", s)
			}
		}
		for _, k := range list(0, 2, 7) {
			colours, e := cut.Colours(s, k)
			errors = append(errors, e)
			if len(colours) != 0 {
				t.Errorf("%v: results besides an error", s)
			}
		}
		for i, e := range errors {
			if e != api.ErrRange {
				t.Errorf("%v: error %d is %d", s, i, e)
			}
		}
	}
}

// P2.2, P2.4: the chapter's examples of Can, Fill, Count and Upright.
func TestExamplesFill(t *testing.T) {
	s := sheet(2, 3, 2, 1)
	if l, e := cut.Fill(s); !slices.Equal(l, cards("00u", "01u", "02u")) || e != api.OK {
		t.Errorf("Fill: %v %d", l, e)
	}
	if least, most, e := cut.Upright(s); least != 1 || most != 3 || e != api.OK {
		t.Errorf("Upright: %d %d %d", least, most, e)
	}
	for _, x := range []struct {
		s     cut.Sheet
		count int
	}{
		{s, 3}, {sheet(4, 4, 2, 1), 36}, {sheet(4, 5, 2, 1), 95}, {sheet(6, 6, 2, 1), 6728},
		{sheet(5, 6, 2, 1), 1183}, {sheet(6, 6, 1, 1), 1}, {sheet(6, 6, 6, 6), 1}, {sheet(6, 6, 6, 1), 2},
		{sheet(5, 5, 2, 1), 0}, {sheet(6, 6, 4, 1), 0}, {sheet(1, 1, 2, 1), 0},
	} {
		if n, e := cut.Count(x.s); n != x.count || e != api.OK {
			t.Errorf("Count of %v: %d %d", x.s, n, e)
		}
	}
	for _, x := range []struct {
		s   cut.Sheet
		can bool
	}{{sheet(5, 6, 3, 2), true}, {sheet(5, 5, 2, 1), false}, {sheet(6, 6, 4, 1), false}} {
		if is, e := cut.Can(x.s); is != x.can || e != api.OK {
			t.Errorf("Can of %v: %v %d", x.s, is, e)
		}
	}
	for _, s := range []cut.Sheet{sheet(5, 5, 2, 1), sheet(6, 6, 4, 1), sheet(1, 1, 6, 6)} {
		l, e := cut.Fill(s)
		least, most, f := cut.Upright(s)
		if len(l) != 0 || e != api.ErrLost || least != 0 || most != 0 || f != api.ErrLost {
			t.Errorf("%v: Fill %v %d, Upright %d %d %d", s, l, e, least, most, f)
		}
	}
}

// P2.7: the chapter's examples of Colours and Against, and numbers that are not from 1 to 6.
func TestExamplesColours(t *testing.T) {
	for _, x := range []struct {
		s    cut.Sheet
		k    int
		want []int
		e    api.Errno
	}{
		{sheet(5, 5, 2, 1), 2, list(13, 12), 0}, {sheet(6, 6, 4, 1), 4, list(9, 10, 9, 8), 0},
		{sheet(3, 4, 1, 1), 1, list(12), 0}, {sheet(1, 1, 2, 1), 6, list(1, 0, 0, 0, 0, 0), 0},
		{sheet(2, 2, 1, 1), 0, nil, api.ErrRange}, {sheet(2, 2, 1, 1), 7, nil, api.ErrRange},
		{sheet(2, 2, 1, 1), -1, nil, api.ErrRange}, {sheet(2, 2, 1, 1), math.MinInt, nil, api.ErrRange},
		{sheet(2, 2, 1, 1), math.MaxInt, nil, api.ErrRange},
	} {
		if l, e := cut.Colours(x.s, x.k); !slices.Equal(l, x.want) || e != x.e {
			t.Errorf("Colours of %v by %d: %v %d", x.s, x.k, l, e)
		}
	}
	for _, x := range []struct {
		s       cut.Sheet
		kind, k int
		e       api.Errno
	}{
		{sheet(5, 5, 2, 1), cut.Colour, 2, 0}, {sheet(3, 6, 2, 2), cut.Side, 3, 0}, {sheet(6, 6, 4, 1), cut.Colour, 4, 0},
		{sheet(6, 6, 1, 4), cut.Colour, 4, 0}, {sheet(6, 3, 2, 2), cut.Side, 3, 0}, {sheet(1, 3, 2, 2), cut.Side, 1, 0},
		{sheet(5, 5, 3, 2), cut.Colour, 3, 0}, {sheet(3, 5, 3, 2), cut.Colour, 2, 0}, {sheet(2, 2, 2, 1), 0, 0, api.ErrClash},
	} {
		if kind, k, e := cut.Against(x.s); kind != x.kind || k != x.k || e != x.e {
			t.Errorf("Against of %v: %d %d %d", x.s, kind, k, e)
		}
	}
}

// P2.5, P2.6: the chapter's examples of Cuts, Straight, Rounds and Solid, and a filling that is not straight.
func TestExamplesCuts(t *testing.T) {
	six := cards("00u", "01u", "02t", "04t", "12u", "13t", "15u", "20t", "23u", "24u", "30u", "31t", "35u", "41t", "43t")
	whole := cards("00u", "01u", "02t", "04t", "12u", "13t", "15u", "20u", "21u", "23t", "32t", "34u", "35u", "40u", "41t", "43u", "51t", "54t")
	for i, x := range []struct {
		s             cut.Sheet
		l             []cut.Card
		rows, columns []int
		rounds        int
		e             api.Errno
	}{
		{sheet(2, 3, 2, 1), cards("00u", "01t", "11t"), nil, list(1), 2, 0},
		{sheet(2, 3, 2, 1), cards("00u", "01u", "02u"), nil, list(1, 2), 2, 0},
		{sheet(1, 2, 1, 2), cards("00u"), nil, nil, 0, 0},
		{sheet(1, 4, 1, 1), cards("00u", "01u", "02u", "03u"), nil, list(1, 2, 3), 2, 0},
		{sheet(5, 1, 1, 1), cards("00u", "10u", "20u", "30u", "40u"), list(1, 2, 3, 4), nil, 3, 0},
		{sheet(5, 6, 2, 1), six, nil, nil, 0, api.ErrLost},
		{sheet(6, 6, 2, 1), whole, nil, list(1), 0, api.ErrLost},
	} {
		rows, columns, e := cut.Cuts(x.s, x.l)
		straight, f := cut.Straight(x.s, x.l)
		rounds, g := cut.Rounds(x.s, x.l)
		want := x.e
		if want == api.ErrLost {
			want = api.OK
		}
		if !slices.Equal(rows, x.rows) || !slices.Equal(columns, x.columns) || e != want {
			t.Errorf("Cuts %d: %v %v %d", i, rows, columns, e)
		}
		if straight != (x.e == api.OK) || f != want || rounds != x.rounds || g != x.e {
			t.Errorf("Straight %d: %v %d, Rounds: %d %d", i, straight, f, rounds, g)
		}
	}
	for _, x := range []struct {
		s cut.Sheet
		l []cut.Card
		e api.Errno
	}{
		{sheet(2, 2, 2, 1), nil, api.ErrLost}, {sheet(1, 2, 1, 2), cards("00u"), 0}, {sheet(2, 1, 1, 2), cards("00t"), 0},
		{sheet(3, 3, 3, 3), cards("00u"), 0}, {sheet(3, 3, 2, 2), nil, api.ErrLost}, {sheet(6, 6, 2, 1), nil, api.ErrLost},
		{sheet(5, 6, 2, 1), six, 0},
	} {
		if l, e := cut.Solid(x.s); !slices.Equal(l, x.l) || e != x.e {
			t.Errorf("Solid of %v: %v %d", x.s, l, e)
		}
	}
}

// P2.3: the chapter's examples of Verify, each error, and which one is first (R1).
func TestExamplesVerify(t *testing.T) {
	four, flat := sheet(2, 2, 2, 1), sheet(2, 2, 1, 1)
	for i, x := range []struct {
		s cut.Sheet
		l []cut.Card
		e api.Errno
	}{
		{four, cards("00u"), api.ErrOpen}, {four, cards("00u", "00u"), api.ErrOrder}, {four, cards("00u", "01u"), 0},
		{four, nil, api.ErrOpen}, {four, []cut.Card{}, api.ErrOpen}, {four, cards("00t", "10t"), 0},
		{four, cards("01u", "00u"), api.ErrOrder}, {four, cards("10u"), api.ErrRange}, {four, cards("01t"), api.ErrRange},
		{four, cards("20t"), api.ErrRange}, {four, cards("02u"), api.ErrRange},
		{four, cards("00u", "10t"), api.ErrClash}, {four, cards("00t", "01u"), api.ErrClash},
		{four, cards("00u", "01u", "10t"), api.ErrClash}, {four, cards("00u", "01u", "00u"), api.ErrOrder},
		{four, cards("01u", "00u", "22u"), api.ErrOrder}, {four, cards("22u", "00u"), api.ErrRange},
		{flat, cards("00u", "01u", "10u", "11u"), 0}, {flat, cards("00t"), api.ErrShape}, {flat, cards("99t"), api.ErrShape},
		{flat, cards("00u", "01u", "01t"), api.ErrShape}, {flat, cards("00u", "01u", "11u", "10u"), api.ErrOrder},
		{flat, cards("00u", "01u", "11u"), api.ErrOpen},
		{four, []cut.Card{{Row: -1}}, api.ErrRange}, {four, []cut.Card{{Column: -1}}, api.ErrRange},
		{four, []cut.Card{{Row: math.MaxInt}}, api.ErrRange}, {four, []cut.Card{{Column: math.MaxInt}}, api.ErrRange},
		{four, []cut.Card{{Row: math.MaxInt, Turned: true}}, api.ErrRange}, {four, []cut.Card{{Row: math.MinInt}}, api.ErrRange},
		{four, []cut.Card{{Row: math.MinInt, Column: math.MinInt, Turned: true}}, api.ErrRange},
		{four, make([]cut.Card, 100000), api.ErrOrder},
	} {
		if e := cut.Verify(x.s, x.l); e != x.e {
			t.Errorf("Verify %d of %v: %d, want %d", i, x.s, e, x.e)
		}
		checkZero(t, x.s, x.l, x.e)
	}
}

// checkZero checks that Cuts, Straight and Rounds return the error of Verify, and nothing else with it.
func checkZero(t *testing.T, s cut.Sheet, l []cut.Card, want api.Errno) {
	t.Helper()
	rows, columns, e := cut.Cuts(s, l)
	straight, f := cut.Straight(s, l)
	rounds, g := cut.Rounds(s, l)
	if e != want || f != want || want != api.OK && g != want {
		t.Errorf("%v: errors %d, %d and %d, want %d", s, e, f, g, want)
	}
	if want != api.OK && (len(rows)+len(columns) != 0 || straight || rounds != 0) {
		t.Errorf("%v: results besides the error %d", s, want)
	}
}
