package shuffle_test

import (
	"math/rand/v2"
	"slices"
	"testing"

	"spadille/api"
	"spadille/shuffle"
)

// roomy returns a list with more memory behind its end, and all of that memory.
func roomy(l []int) (given, memory []int) {
	memory = append(slices.Clone(l), 77, 77, 77)
	return memory[:len(l)], memory
}

// lists calls all functions that are given lists, and returns the lists that they return.
func lists(pack, one, two []int) [][]int {
	var all [][]int
	for kind := range 2 {
		perfect, _ := shuffle.Perfect(pack, kind)
		all = append(all, perfect)
	}
	riffled, _ := shuffle.Riffle(pack, one, 4)
	first, _ := shuffle.First(pack, 10)
	joined, _ := shuffle.Joined(one, 4, two, 3)
	brought, _ := shuffle.Bring(10, 9, 5)
	all = append(all, riffled, first, joined, brought)
	rising, _ := shuffle.Rising(pack)
	riffles, _ := shuffle.Riffles(pack)
	shuffle.Check(pack)
	shuffle.Ways(pack, 5)
	shuffle.Fewest(pack)
	return append(append(all, rising...), riffles...)
}

// R4: no argument is changed, also not behind its end, and results share no memory: what is done to one shows in no other.
func TestMemory(t *testing.T) {
	r := rand.New(rand.NewPCG(5, 40))
	for range 500 {
		cards := 1 + r.IntN(10)
		pack, m1 := roomy(randomPack(r, cards))
		one, m2 := roomy(randomRiffle(r, cards, 4))
		two, m3 := roomy(randomRiffle(r, cards, 3))
		before := [][]int{slices.Clone(m1), slices.Clone(m2), slices.Clone(m3)}
		all := lists(pack, one, two)
		kept := make([][]int, len(all))
		for i, l := range all {
			kept[i] = slices.Clone(l)
		}
		for i, l := range all {
			for k := range l {
				l[k] = -1 - i
			}
			_ = append(l, -1)
		}
		for i, l := range all {
			if slices.ContainsFunc(l, func(n int) bool { return n != -1-i }) {
				t.Fatalf("%v, %v, %v: results share memory", pack, one, two)
			}
		}
		if !equal(before, [][]int{m1, m2, m3}) {
			t.Fatalf("%v, %v, %v: arguments are changed", pack, one, two)
		}
		if again := lists(pack, one, two); !equal(kept, again) {
			t.Fatalf("%v, %v, %v: %v, and then %v", pack, one, two, kept, again)
		}
	}
}

// R3: nil and a list without elements are the same.
func TestNil(t *testing.T) {
	for _, l := range [][]int{nil, {}} {
		errors, more := answers(l, l, 2, 0)
		if more || slices.ContainsFunc(errors, func(e api.Errno) bool { return e != api.ErrEmpty }) {
			t.Errorf("errors are %v", errors)
		}
		if x, e := shuffle.Riffle(list(1, 0), l, 2); x != nil || e != api.ErrShape {
			t.Errorf("Riffle: %v %d", x, e)
		}
		if x, e := shuffle.Joined(l, 2, l, 2); x != nil || e != api.ErrEmpty {
			t.Errorf("Joined: %v %d", x, e)
		}
		if x, e := shuffle.Joined(list(0), 2, l, 2); x != nil || e != api.ErrShape {
			t.Errorf("Joined: %v %d", x, e)
		}
	}
}

// P1: several callers at once do not disturb each other, and equal arguments have equal results.
func TestAtOnce(t *testing.T) {
	pack, one, two := list(3, 1, 4, 0, 5, 9, 2, 6, 8, 7), list(3, 1, 0, 0, 2, 1, 3, 0, 2, 1), list(2, 0, 1, 1, 0, 2, 0, 1, 2, 0)
	want := lists(pack, one, two)
	done := make(chan bool)
	for range 8 {
		go func() {
			same := true
			for range 50 {
				same = same && equal(lists(pack, one, two), want)
			}
			done <- same
		}()
	}
	for range 8 {
		if !<-done {
			t.Error("results differ from call to call")
		}
	}
}
