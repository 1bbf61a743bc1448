package back_test

import (
	"math/rand/v2"
	"slices"
	"testing"

	"spadille/api"
	"spadille/back"
)

// P3.8: Count times the number of Turns is the sum of Staying.
func TestP3_8Sum(t *testing.T) {
	for _, p := range presses() {
		sum := 0
		for _, turn := range p.Turns {
			n, e := back.Staying(p, turn)
			if e != api.OK {
				t.Fatalf("Staying of %v, %d: %d", p, turn, e)
			}
			sum += n
		}
		if n := mustCount(t, p); n*len(p.Turns) != sum {
			t.Errorf("Count of %v is %d, but the sum of Staying is %d", p, n, sum)
		}
	}
}

// P3.9: as many backs are alike, times the turns with which they stay, as there are Turns.
func TestP3_9Kin(t *testing.T) {
	eachBack(100, func(p back.Press, b []int) {
		kin, e := back.Kin(p, b)
		stays, f := back.Stays(p, b)
		if e != api.OK || f != api.OK || len(kin)*len(stays) != len(p.Turns) {
			t.Fatalf("%v, %v: Kin %v %d, Stays %v %d", p, b, kin, e, stays, f)
		}
	})
}

// P3.10: turning twice is turning by the product, and the turns with which a back stays have all their products.
func TestP3_10Products(t *testing.T) {
	eachBack(40, func(p back.Press, b []int) {
		stays, e := back.Stays(p, b)
		if e != api.OK {
			t.Fatalf("Stays of %v, %v: %d", p, b, e)
		}
		for _, first := range p.Turns {
			once := mustTurn(t, p, b, first)
			for _, second := range p.Turns {
				both, e := back.Product(first, second)
				if e != api.OK || !slices.Equal(mustTurn(t, p, once, second), mustTurn(t, p, b, both)) {
					t.Fatalf("%v, %v: the product of %d and %d is %d, %d", p, b, first, second, both, e)
				}
				if slices.Contains(stays, first) && slices.Contains(stays, second) && !slices.Contains(stays, both) {
					t.Fatalf("%v, %v: stays with %v, but not with %d", p, b, stays, both)
				}
			}
		}
	})
}

// P3.11: With of all amounts together is Count.
func TestP3_11Amounts(t *testing.T) {
	for _, p := range presses() {
		sum := 0
		for _, cells := range allAmounts(p.Colours, p.Rows*p.Columns) {
			sum += mustWith(t, p, cells)
		}
		if n := mustCount(t, p); n != sum {
			t.Errorf("Count of %v is %d, but the sum of With is %d", p, n, sum)
		}
	}
}

// P3.12: with more colours there are at least as many different backs, with more turns at most as many.
func TestP3_12More(t *testing.T) {
	all := presses()
	for _, p := range all {
		n := mustCount(t, p)
		if more := p; p.Colours < back.MaxColours {
			more.Colours++
			if m := mustCount(t, more); m < n {
				t.Errorf("Count of %v: %d, but %d with more colours", p, n, m)
			}
		}
		for _, q := range all {
			if q.Rows != p.Rows || q.Columns != p.Columns || q.Colours != p.Colours || !within(p.Turns, q.Turns) {
				continue
			}
			if m := mustCount(t, q); m > n {
				t.Errorf("Count of %v: %d, but of %v %d", p, n, q, m)
			}
		}
	}
}

// within returns whether all numbers of a list are in another one.
func within(some, all []int) bool {
	return !slices.ContainsFunc(some, func(n int) bool { return !slices.Contains(all, n) })
}

// exchanged returns a back of which two colours are exchanged.
func exchanged(b []int, one, other int) []int {
	l := slices.Clone(b)
	for i, colour := range b {
		switch colour {
		case one:
			l[i] = other
		case other:
			l[i] = one
		}
	}
	return l
}

// P3.13: if two colours are exchanged, Kin goes with it, and Stays and Cells remain.
func TestP3_13Colours(t *testing.T) {
	r := rand.New(rand.NewPCG(3, 13))
	eachBack(60, func(p back.Press, b []int) {
		one, other := r.IntN(p.Colours), r.IntN(p.Colours)
		x := exchanged(b, one, other)
		kin, e1 := back.Kin(p, b)
		stays, e2 := back.Stays(p, b)
		cells, e3 := back.Cells(p, b)
		for i, k := range kin {
			kin[i] = exchanged(k, one, other)
		}
		slices.SortFunc(kin, slices.Compare)
		kinToo, e4 := back.Kin(p, x)
		staysToo, e5 := back.Stays(p, x)
		cellsToo, e6 := back.Cells(p, x)
		if e1+e2+e3+e4+e5+e6 != api.OK || !equal(kin, kinToo) || !slices.Equal(stays, staysToo) || !slices.Equal(cells, cellsToo) {
			t.Fatalf("%v, %v and %v: %v and %v, %v and %v, %v and %v", p, b, x, kin, kinToo, stays, staysToo, cells, cellsToo)
		}
	})
}

// P3.13: what is alike is so in both orders.
func TestP3_13Orders(t *testing.T) {
	r := rand.New(rand.NewPCG(3, 14))
	eachBack(40, func(p back.Press, a []int) {
		b := turned(p, a, list(0, 2, 4, 5)[r.IntN(4)])
		if r.IntN(2) == 0 {
			b[r.IntN(len(b))] = r.IntN(p.Colours)
		}
		there, e := back.Alike(p, a, b)
		again, f := back.Alike(p, b, a)
		if e != f {
			t.Fatalf("Alike of %v, %v and %v: %d %d, and %d %d", p, a, b, there, e, again, f)
		}
		if e == api.OK && (!slices.Equal(mustTurn(t, p, a, there), b) || !slices.Equal(mustTurn(t, p, b, again), a)) {
			t.Fatalf("Alike of %v, %v and %v: %d and %d", p, a, b, there, again)
		}
	})
}

// P3.14: as many cells suffice as there are turns with which a back does not stay.
func TestP3_14Few(t *testing.T) {
	eachBack(150, func(p back.Press, b []int) {
		cells, e := back.Cells(p, b)
		stays, f := back.Stays(p, b)
		if e != api.OK || f != api.OK || len(cells) > len(p.Turns)-len(stays) || back.Shows(p, b, cells) != api.OK {
			t.Fatalf("%v, %v: Cells %v %d, Stays %v %d", p, b, cells, e, stays, f)
		}
		if len(stays) == len(p.Turns) && (len(cells) != 0 || back.Shows(p, b, nil) != api.OK) {
			t.Fatalf("%v, %v: Cells %v", p, b, cells)
		}
	})
}
