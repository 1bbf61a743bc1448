package stamp_test

import (
	"slices"
	"testing"

	"spadille/api"
	"spadille/stamp"
)

// results calls all functions and returns the lists that they return.
func results(b stamp.Books, flow, rooms []int) [][]int {
	first, _ := stamp.First(b)
	other, _ := stamp.Other(b, flow)
	against, _ := stamp.Against(b)
	open, _ := stamp.Open(b)
	all := [][]int{first, other, against, open}
	stamp.Check(b)
	stamp.Can(b)
	stamp.Verify(b, flow)
	stamp.Proves(b, rooms)
	for i := range b.Ways {
		stamp.Span(b, i)
		stamp.Says(b, rooms, i)
		for _, greatest := range []bool{true, false} {
			l, _ := stamp.Bound(b, i, greatest)
			all = append(all, l)
		}
	}
	return all
}

// R4: no argument is changed, and results share no memory: what is done to one shows in no other.
func TestMemory(t *testing.T) {
	for _, b := range []stamp.Books{exampleB(), exampleC(), books(3, 0, 1, 0, 9, 1, 2, 0, 7, 2, 0, 0, 6, 1, 0, 2, 2)} {
		flow, _ := stamp.First(b)
		rooms := list(0, 1)
		b.Ways = slices.Grow(b.Ways, 9)
		before, numbers := clone(b), slices.Clone(flow)
		one := results(b, flow, rooms)
		if !equal(b, before) || !slices.Equal(flow, numbers) || !slices.Equal(rooms, list(0, 1)) {
			t.Errorf("%v: arguments are changed", before)
		}
		kept := make([][]int, len(one))
		for i, l := range one {
			kept[i] = slices.Clone(l)
		}
		for i, l := range one {
			for k := range l {
				l[k] = -1 - i
			}
			_ = append(l, -1)
		}
		for i, l := range one {
			if slices.ContainsFunc(l, func(n int) bool { return n != -1-i }) {
				t.Errorf("%v: results share memory", before)
			}
		}
		two := results(b, flow, rooms)
		if !slices.EqualFunc(kept, two, slices.Equal) || !equal(b, before) || !slices.Equal(flow, numbers) {
			t.Errorf("%v: %v, and then %v", before, kept, two)
		}
	}
}

// R4: the spans are new each time as well.
func TestMemorySpans(t *testing.T) {
	one, _ := stamp.Spans(exampleB())
	one[0] = [2]int{9, 9}
	if two, e := stamp.Spans(exampleB()); e != api.OK || two[0] != [2]int{5, 6} {
		t.Errorf("Spans: %v %d", two, e)
	}
}

// R3: nil and a list without elements are the same.
func TestNil(t *testing.T) {
	none, empty := stamp.Books{Rooms: 2}, stamp.Books{Rooms: 2, Ways: []stamp.Way{}}
	for _, b := range []stamp.Books{none, empty} {
		for _, l := range [][]int{nil, {}} {
			_, e := stamp.Other(b, l)
			if stamp.Verify(b, l) != api.OK || e != api.ErrLost || stamp.Proves(b, l) != api.ErrProof {
				t.Errorf("%v, %v: not as it should be", b, l)
			}
		}
	}
	for _, l := range [][]int{nil, {}} {
		if _, e := stamp.Says(exampleB(), l, 0); e != api.ErrLost {
			t.Errorf("Says of %v: %d", l, e)
		}
	}
}

// P1, R4: several callers at once do not disturb each other, and equal arguments have equal results.
func TestAtOnce(t *testing.T) {
	b := exampleB()
	done := make(chan bool)
	for range 8 {
		go func() {
			same := true
			for range 50 {
				f, e := stamp.Other(b, list(5, 5, 5))
				same = same && slices.Equal(f, list(6, 6, 6)) && e == api.OK
			}
			done <- same
		}()
	}
	for range 8 {
		if !<-done {
			t.Error("Other differs from call to call")
		}
	}
}
