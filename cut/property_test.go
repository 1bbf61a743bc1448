package cut_test

import (
	"slices"
	"testing"

	"spadille/api"
	"spadille/cut"
)

// P2.8: a sheet has a filling just if its sides can be made, and both sides of cards divide one of them.
func TestP2_8WhichSheets(t *testing.T) {
	for _, s := range sheets() {
		want := sums(s, s.Rows) && sums(s, s.Columns) && divides(s, s.Long) && divides(s, s.Wide)
		if is, e := cut.Can(s); is != want || e != api.OK {
			t.Errorf("Can of %v: %v %d", s, is, e)
		}
	}
}

// P2.9: cards of fillings cover as many squares of each colour by both of their sides.
func TestP2_9Cards(t *testing.T) {
	for s := range known() {
		l, e := cut.Fill(s)
		if e != api.OK {
			t.Fatalf("Fill of %v: %d", s, e)
		}
		for _, k := range list(s.Long, s.Wide) {
			sum := make([]int, k)
			for _, c := range l {
				one := make([]int, k)
				for row := range s.Rows {
					for column := range s.Columns {
						if covers(s, c, row, column) {
							one[(row+column)%k]++
							sum[(row+column)%k]++
						}
					}
				}
				if !level(one) {
					t.Errorf("%v: %v covers %v", s, c, one)
				}
			}
			if colours, e := cut.Colours(s, k); !slices.Equal(colours, sum) || e != api.OK {
				t.Errorf("Colours of %v by %d: %v %d, but cards have %v", s, k, colours, e, sum)
			}
		}
	}
}

// P2.9: colours are level just if their number divides a side; so what Against returns is a proof.
func TestP2_9Proofs(t *testing.T) {
	for _, s := range sheets() {
		for k := 1; k <= 6; k++ {
			if l, e := cut.Colours(s, k); e != api.OK || len(l) != k || level(l) != divides(s, k) {
				t.Errorf("Colours of %v by %d: %v %d", s, k, l, e)
			}
		}
		switch kind, k, e := cut.Against(s); {
		case e == api.ErrClash:
			if kind != 0 || k != 0 || mustCount(t, s) == 0 {
				t.Errorf("Against of %v: %d %d %d", s, kind, k, e)
			}
		case kind == cut.Side:
			if e != api.OK || k != s.Rows && k != s.Columns || sums(s, k) {
				t.Errorf("Against of %v: the side %d, %d", s, k, e)
			}
		case kind == cut.Colour:
			if l, f := cut.Colours(s, k); e != api.OK || f != api.OK || k != s.Long && k != s.Wide || level(l) {
				t.Errorf("Against of %v: the colours by %d, %d", s, k, e)
			}
		default:
			t.Errorf("Against of %v: %d %d %d", s, kind, k, e)
		}
	}
}

// P2.10: where there is a filling there is a straight one, and rounds are not fewer than they can be.
func TestP2_10Straight(t *testing.T) {
	for s, fillings := range known() {
		found := false
		for _, l := range fillings {
			straight, e := cut.Straight(s, l)
			rounds, f := cut.Rounds(s, l)
			found = found || straight
			switch {
			case e != api.OK || straight != (f == api.OK):
				t.Fatalf("%v, %v: Straight %v %d, Rounds %d %d", s, l, straight, e, rounds, f)
			case straight && (1<<rounds < len(l) || rounds >= len(l)):
				t.Fatalf("Rounds of %v, %v: %d", s, l, rounds)
			}
		}
		if !found {
			t.Errorf("%v has no straight filling", s)
		}
	}
}

// P2.11: solid fillings of several cards are not straight.
func TestP2_11Solid(t *testing.T) {
	several := 0
	for _, s := range sheets() {
		l, e := cut.Solid(s)
		if e != api.OK {
			continue
		}
		rows, columns, f := cut.Cuts(s, l)
		straight, g := cut.Straight(s, l)
		if f != api.OK || g != api.OK || len(rows)+len(columns) != 0 || straight != (len(l) == 1) {
			t.Errorf("%v, %v: Cuts %v %v %d, Straight %v %d", s, l, rows, columns, f, straight, g)
		}
		if len(l) > 1 {
			several++
		}
	}
	if several != 4 {
		t.Errorf("%d sheets have solid fillings of several cards", several)
	}
	if l, e := cut.Solid(sheet(6, 6, 2, 1)); len(l) != 0 || e != api.ErrLost {
		t.Errorf("Solid: %v %d", l, e)
	}
}

// P2.12: exchanged sides of sheets or of cards make no difference, but that upright cards are Turned.
func TestP2_12Turned(t *testing.T) {
	for _, s := range sheets() {
		n := mustCount(t, s)
		swapped := sheet(s.Rows, s.Columns, s.Wide, s.Long)
		if a, b := mustCount(t, sheet(s.Columns, s.Rows, s.Long, s.Wide)), mustCount(t, swapped); a != n || b != n {
			t.Errorf("Count of %v: %d, but %d and %d turned", s, n, a, b)
		}
		if n == 0 || s.Long == s.Wide {
			continue
		}
		least, most, e := cut.Upright(s)
		a, b, f := cut.Upright(swapped)
		all := s.Rows * s.Columns / (s.Long * s.Wide)
		if e != api.OK || f != api.OK || a != all-most || b != all-least {
			t.Errorf("Upright of %v: %d %d %d, but %d %d %d turned", s, least, most, e, a, b, f)
		}
		for _, l := range known()[s] {
			l = slices.Clone(l)
			for i := range l {
				l[i].Turned = !l[i].Turned
			}
			if e := cut.Verify(swapped, l); e != api.OK {
				t.Fatalf("Verify of %v, %v: %d", swapped, l, e)
			}
		}
	}
}

// P2.12: a filling whose rows and columns are exchanged has exchanged cuts, and as many rounds.
func TestP2_12Exchanged(t *testing.T) {
	for s, fillings := range known() {
		other := sheet(s.Columns, s.Rows, s.Wide, s.Long)
		for _, l := range fillings {
			turned := slices.Clone(l)
			for i, c := range l {
				turned[i].Row, turned[i].Column = c.Column, c.Row
			}
			slices.SortFunc(turned, func(a, b cut.Card) int {
				return slices.Compare(list(a.Row, a.Column), list(b.Row, b.Column))
			})
			rows, columns, e := cut.Cuts(s, l)
			across, down, f := cut.Cuts(other, turned)
			m, g := cut.Rounds(s, l)
			n, h := cut.Rounds(other, turned)
			if e != api.OK || f != api.OK || !slices.Equal(rows, down) || !slices.Equal(columns, across) || m != n || g != h {
				t.Fatalf("%v, %v: %v %v %d %d, exchanged %v %v %d %d", s, l, rows, columns, m, g, across, down, n, h)
			}
		}
	}
}

// P2.13: cards of fillings cover as many squares as sheets have.
func TestP2_13Squares(t *testing.T) {
	for _, s := range sheets() {
		l, e := cut.Fill(s)
		m, f := cut.Solid(s)
		n := s.Long * s.Wide
		if e == api.OK && (len(l)*n != s.Rows*s.Columns || cut.Verify(s, l) != api.OK) {
			t.Errorf("Fill of %v: %v", s, l)
		}
		if f == api.OK && (len(m)*n != s.Rows*s.Columns || cut.Verify(s, m) != api.OK) {
			t.Errorf("Solid of %v: %v", s, m)
		}
	}
}

// P2.14: two sheets that are filled can be joined.
func TestP2_14More(t *testing.T) {
	for _, s := range sheets() {
		for rows := 1; s.Rows+rows <= cut.MaxSide; rows++ {
			other := sheet(rows, s.Columns, s.Long, s.Wide)
			both := sheet(s.Rows+rows, s.Columns, s.Long, s.Wide)
			a, b, n := mustCount(t, s), mustCount(t, other), mustCount(t, both)
			if is, e := cut.Can(both); n < a*b || a*b > 0 && !is || e != api.OK {
				t.Errorf("%v has %d fillings, %v has %d, but %v has %d", s, a, other, b, both, n)
			}
		}
	}
}
