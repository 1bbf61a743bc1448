package back_test

import (
	"slices"
	"testing"

	"spadille/api"
	"spadille/back"
)

// roomy returns a list with more memory behind its end, and all of that memory.
func roomy(l []int) (given, memory []int) {
	memory = append(slices.Clone(l), 77, 77, 77)
	return memory[:len(l)], memory
}

// lists calls all functions that return lists, and the other ones, and returns the lists.
func lists(p back.Press, b, other, cells []int) [][]int {
	var all [][]int
	for _, turn := range p.Turns {
		x, _ := back.Turn(p, b, turn)
		all = append(all, x)
		back.Staying(p, turn)
	}
	first, _ := back.First(p, b)
	stays, _ := back.Stays(p, b)
	few, _ := back.Cells(p, b)
	all = append(all, first, stays, few)
	kin, _ := back.Kin(p, b)
	every, _ := back.All(p)
	back.Check(p)
	back.Alike(p, b, other)
	back.Alike(p, other, b)
	back.Count(p)
	back.With(p, cells)
	back.Shows(p, b, cells)
	return append(append(all, kin...), every...)
}

// R4: no argument is changed, also not behind its end, and results share no memory: what is done to one shows in no other.
func TestMemory(t *testing.T) {
	for _, p := range []back.Press{exampleP(), exampleQ(), press(2, 2, 2, 0, 1, 2, 3, 4, 5, 6, 7), press(1, 3, 2, 0)} {
		for _, b := range allBacks(p) {
			turns, m1 := roomy(p.Turns)
			given, m2 := roomy(b)
			other, m3 := roomy(turned(p, b, 2))
			cells, m4 := roomy(amountsOf(p, b))
			before := [][]int{slices.Clone(m1), slices.Clone(m2), slices.Clone(m3), slices.Clone(m4)}
			p.Turns = turns
			one := lists(p, given, other, cells)
			kept := make([][]int, len(one))
			for i, l := range one {
				kept[i] = slices.Clone(l)
			}
			for i, l := range one {
				for k := range l {
					l[k] = -1 - i
				}
				_ = append(l, -1)
			}
			for i, l := range one {
				if slices.ContainsFunc(l, func(n int) bool { return n != -1-i }) {
					t.Fatalf("%v, %v: results share memory", p, b)
				}
			}
			if !equal(before, [][]int{m1, m2, m3, m4}) {
				t.Fatalf("%v, %v: arguments are changed", p, b)
			}
			if two := lists(p, given, other, cells); !equal(kept, two) {
				t.Fatalf("%v, %v: %v, and then %v", p, b, kept, two)
			}
		}
	}
}

// R3: nil and a list without elements are the same.
func TestNil(t *testing.T) {
	for _, l := range [][]int{nil, {}} {
		p := press(1, 1, 2)
		p.Turns = l
		if e := back.Check(p); e != api.ErrOpen {
			t.Errorf("Check: %d", e)
		}
		if n, e := back.With(exampleP(), l); n != 0 || e != api.ErrShape {
			t.Errorf("With: %d %d", n, e)
		}
		if errors, more := answers(exampleP(), l); more || slices.ContainsFunc(errors, func(e api.Errno) bool { return e != api.ErrShape }) {
			t.Errorf("errors are %v", errors)
		}
		if e := back.Shows(exampleP(), list(0, 1, 1, 0), l); e != api.ErrProof {
			t.Errorf("Shows: %d", e)
		}
		if e := back.Shows(exampleP(), list(1, 1, 1, 1), l); e != api.OK {
			t.Errorf("Shows: %d", e)
		}
	}
}

// P1: several callers at once do not disturb each other, and equal arguments have equal results.
func TestAtOnce(t *testing.T) {
	p, b := press(3, 3, 2, 0, 1, 2, 3, 4, 5, 6, 7), list(0, 1, 0, 0, 1, 1, 0, 0, 0)
	want := kinOf(p, b)
	done := make(chan bool)
	for range 8 {
		go func() {
			same := true
			for range 20 {
				kin, e := back.Kin(p, b)
				all, f := back.All(p)
				n, g := back.Count(p)
				same = same && equal(kin, want) && e == api.OK && len(all) == 102 && f == api.OK && n == 102 && g == api.OK
			}
			done <- same
		}()
	}
	for range 8 {
		if !<-done {
			t.Error("results differ from call to call")
		}
	}
}
