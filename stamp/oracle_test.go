package stamp_test

import (
	"slices"
	"testing"

	"spadille/api"
	"spadille/stamp"
)

// P1.1, P1.2: Can, First, Verify and Other, compared with all flows of small books.
func TestP1_2AllFlows(t *testing.T) {
	agreed, several := 0, 0
	for _, b := range samples(1, 600) {
		flows := flowsOf(b)
		if is, e := stamp.Can(b); is != (len(flows) > 0) || e != api.OK {
			t.Fatalf("Can of %v: %v %d, but there are %d flows", b, is, e, len(flows))
		}
		first, e := stamp.First(b)
		if len(flows) == 0 {
			if len(first) != 0 || e != api.ErrLost {
				t.Fatalf("First of %v: %v %d", b, first, e)
			}
			continue
		}
		agreed++
		if !slices.Equal(first, flows[0]) || e != api.OK {
			t.Fatalf("First of %v: %v %d, want %v", b, first, e, flows[0])
		}
		for i, f := range flows {
			if e := stamp.Verify(b, f); e != api.OK {
				t.Fatalf("Verify of %v, %v: %d", b, f, e)
			}
			var want []int
			e := api.ErrLost
			if len(flows) > 1 {
				several++
				want, e = flows[0], api.OK
				if i == 0 {
					want = flows[1]
				}
			}
			if o, f := stamp.Other(b, flows[i]); !slices.Equal(o, want) || f != e {
				t.Fatalf("Other of %v, %v: %v %d, want %v %d", b, flows[i], o, f, want, e)
			}
		}
	}
	if agreed < 300 || agreed > 1100 || several < 300 {
		t.Fatalf("the samples are too much alike: %d agree, %d have several flows", agreed, several)
	}
}

// P1.2: each list of numbers near the bounds is a flow just if the definition says so.
func TestP1_2Verify(t *testing.T) {
	for _, b := range samples(2, 200) {
		if len(b.Ways) == 0 || len(b.Ways) > 4 {
			continue
		}
		wide := clone(b)
		for i := range wide.Ways {
			wide.Ways[i].Least--
			wide.Ways[i].Most++
		}
		flow := make([]int, len(b.Ways))
		for i, w := range wide.Ways {
			flow[i] = w.Least
		}
		for more := true; more; more = count(wide, flow) {
			want := api.OK
			if !isFlow(b, flow) {
				want = api.ErrSum
			}
			for i, w := range b.Ways {
				if flow[i] < w.Least || flow[i] > w.Most {
					want = api.ErrRange
				}
			}
			if e := stamp.Verify(b, flow); e != want {
				t.Fatalf("Verify of %v, %v: %d, want %d", b, flow, e, want)
			}
		}
	}
}

// count goes on to the next list of numbers within the bounds, and returns whether there was one.
func count(b stamp.Books, flow []int) bool {
	for i := len(flow) - 1; i >= 0; i-- {
		if flow[i] < b.Ways[i].Most {
			flow[i]++
			return true
		}
		flow[i] = b.Ways[i].Least
	}
	return false
}

// P1.3, P1.5: Against, Proves and Says, compared with all lists of rooms.
func TestP1_3AllRooms(t *testing.T) {
	long := 0
	for _, b := range append(samples(3, 600), large(3, 300)...) {
		var proofs [][]int
		for _, l := range roomLists(b.Rooms) {
			want := api.ErrProof
			if isProof(b, l) {
				proofs, want = append(proofs, l), api.OK
			}
			if e := stamp.Proves(b, l); e != want {
				t.Fatalf("Proves of %v, %v: %d, want %d", b, l, e, want)
			}
			for i := range b.Ways {
				n, says := said(b, l, i)
				e := api.OK
				if !says {
					e = api.ErrLost
				}
				if m, f := stamp.Says(b, l, i); m != n || f != e {
					t.Fatalf("Says of %v, %v, %d: %d %d, want %d %d", b, l, i, m, f, n, e)
				}
			}
		}
		against, e := stamp.Against(b)
		if len(proofs) == 0 {
			if len(against) != 0 || e != api.ErrClash {
				t.Fatalf("Against %v: %v %d", b, against, e)
			}
			continue
		}
		if !slices.Equal(against, proofs[0]) || e != api.OK {
			t.Fatalf("Against %v: %v %d, want %v", b, against, e, proofs[0])
		}
		if len(against) > 1 {
			long++
		}
	}
	if long < 10 {
		t.Fatalf("only %d books are proved by several rooms", long)
	}
}

// P1.4, P1.5: Span, Spans, Open and Bound, compared with all flows and all lists of rooms.
func TestP1_4AllSpans(t *testing.T) {
	inner := 0
	for _, b := range samples(4, 600) {
		flows := flowsOf(b)
		spans, e := stamp.Spans(b)
		open, f := stamp.Open(b)
		if len(flows) == 0 {
			if len(spans)+len(open) != 0 || e != api.ErrLost || f != api.ErrLost {
				t.Fatalf("Spans of %v: %v %d, Open: %v %d", b, spans, e, open, f)
			}
			continue
		}
		var want [][2]int
		var sure []int
		for i, w := range b.Ways {
			s := ends(flows, i)
			want = append(want, s)
			if s[0] != s[1] {
				sure = append(sure, i)
			}
			if lo, hi, e := stamp.Span(b, i); [2]int{lo, hi} != s || e != api.OK {
				t.Fatalf("Span of %v, %d: %d %d %d, want %v", b, i, lo, hi, e, s)
			}
			for _, greatest := range []bool{true, false} {
				l, e := stamp.Bound(b, i, greatest)
				if m := boundOf(b, i, greatest, s); !slices.Equal(l, m) || e != api.OK {
					t.Fatalf("Bound of %v, %d, %v: %v %d, want %v", b, i, greatest, l, e, m)
				}
			}
			if s[0] > w.Least || s[1] < w.Most {
				inner++
			}
		}
		if !slices.Equal(spans, want) || e != api.OK || !slices.Equal(open, sure) || f != api.OK {
			t.Fatalf("Spans of %v: %v %d, want %v; Open: %v %d, want %v", b, spans, e, want, open, f, sure)
		}
	}
	if inner < 300 {
		t.Fatalf("only %d spans are narrower than what is told", inner)
	}
}

// boundOf returns what Bound has to return for a way with this span.
func boundOf(b stamp.Books, way int, greatest bool, span [2]int) []int {
	w := b.Ways[way]
	if greatest && span[1] == w.Most || !greatest && span[0] == w.Least {
		return nil
	}
	for _, l := range roomLists(b.Rooms) {
		n, says := said(b, l, way)
		if says && (greatest && leavesRooms(w, l) && n == span[1] || !greatest && entersRooms(w, l) && n == span[0]) {
			return l
		}
	}
	return []int{-1} // there is always such a list
}

// P1.2, P1.4, P1.5: in books up to the limits each end of a span is reached by a flow, and proved by rooms.
func TestP1_4Large(t *testing.T) {
	for _, b := range large(5, 400) {
		if is, _ := stamp.Can(b); !is {
			continue
		}
		for i, s := range mustSpans(t, b) {
			for k, n := range s {
				only := clone(b)
				only.Ways[i].Least, only.Ways[i].Most = n, n
				if f, e := stamp.First(only); e != api.OK || !isFlow(b, f) || f[i] != n {
					t.Fatalf("First of %v, with %d by way %d: %v %d", b, n, i, f, e)
				}
				l, e := stamp.Bound(b, i, k == 1)
				if want := boundOf(b, i, k == 1, s); !slices.Equal(l, want) || e != api.OK {
					t.Fatalf("Bound of %v, %d, %v: %v %d, want %v", b, i, k == 1, l, e, want)
				}
			}
		}
		checkFirstLarge(t, b)
	}
}

// checkFirstLarge checks that no way could have less in the first flow without more in one before it.
func checkFirstLarge(t *testing.T, b stamp.Books) {
	t.Helper()
	f, e := stamp.First(b)
	if e != api.OK || !isFlow(b, f) {
		t.Fatalf("First of %v: %v %d", b, f, e)
	}
	less := clone(b)
	for i, n := range f {
		if n > b.Ways[i].Least {
			less.Ways[i].Most = n - 1
			if l, e := stamp.Against(less); e != api.OK || !isProof(less, l) {
				t.Fatalf("First of %v: %v, but way %d can have less", b, f, i)
			}
		}
		less.Ways[i].Least, less.Ways[i].Most = n, n
	}
}
