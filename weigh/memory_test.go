package weigh_test

import (
	"slices"
	"testing"

	"spadille/api"
	"spadille/weigh"
)

// roomy returns a list with more memory behind its end, and all of that memory.
func roomy(l []int) (given, memory []int) {
	memory = append(slices.Clone(l), 77, 77, 77)
	return memory[:len(l)], memory
}

// results calls all functions, and returns all lists of numbers that they return.
func results(kinds []int, w weigh.Weighing, l []weigh.Weighing) [][]int {
	var all [][]int
	for outcome := range 3 {
		left, _ := weigh.After(kinds, w, outcome)
		all = append(all, left)
	}
	for _, g := range allGuesses(len(kinds)) {
		word, _ := weigh.Word(len(kinds), l, g)
		all = append(all, word)
		weigh.Shows(kinds, w, g)
	}
	best, _ := weigh.Best(kinds)
	all = append(all, best.Left, best.Right)
	fixed, _ := weigh.Fixed(len(kinds), 4)
	for _, f := range fixed {
		all = append(all, f.Left, f.Right)
	}
	weigh.Check(kinds)
	weigh.Guesses(kinds)
	weigh.Found(kinds)
	weigh.Fewest(kinds)
	weigh.Apart(len(kinds), l)
	return all
}

// sameLists returns whether lists of lists are the same.
func sameLists(a, b [][]int) bool { return slices.EqualFunc(a, b, slices.Equal) }

// R4: no argument is changed, also not behind its end, and results share no memory: what is done to one shows in no other.
func TestMemory(t *testing.T) {
	for _, kinds := range [][]int{list(3, 3, 3), list(1, 0, 2, 3), times(3, 13), list(0, 3, 2, 1, 3, 0, 1, 2, 2)} {
		given, m1 := roomy(kinds)
		left, m2 := roomy(list(2, 0))
		right, m3 := roomy(list(1, 3))
		if len(kinds) == 3 {
			left, right = left[1:], right[:1]
		}
		w := weigh.Weighing{Left: left, Right: right}
		l := []weigh.Weighing{w, against(0, 2), w, against(9, 9)}[:3]
		before := [][]int{slices.Clone(m1), slices.Clone(m2), slices.Clone(m3)}
		one := results(given, w, l)
		kept := make([][]int, len(one))
		for i, r := range one {
			kept[i] = slices.Clone(r)
		}
		for i, r := range one {
			for k := range r {
				r[k] = -1 - i
			}
			_ = append(r, -1)
		}
		for i, r := range one {
			if slices.ContainsFunc(r, func(n int) bool { return n != -1-i }) {
				t.Fatalf("%v: results share memory", kinds)
			}
		}
		if !sameLists(before, [][]int{m1, m2, m3}) || !equal(l[0], w) || !equal(l[1], against(0, 2)) || !equal(l[2], w) || !equal(l[:4][3], against(9, 9)) {
			t.Fatalf("%v: arguments are changed", kinds)
		}
		if two := results(given, w, l); !sameLists(kept, two) {
			t.Fatalf("%v: %v, and then %v", kinds, kept, two)
		}
		guesses, _ := weigh.Guesses(kinds)
		clear(guesses)
		if again, e := weigh.Guesses(kinds); !slices.Equal(again, guessesOf(kinds)) || e != api.OK {
			t.Fatalf("Guesses of %v: %v %d", kinds, again, e)
		}
	}
}

// R3: nil and a list without elements are the same.
func TestNil(t *testing.T) {
	for _, l := range [][]int{nil, {}} {
		if e := weigh.Check(l); e != api.ErrEmpty {
			t.Errorf("Check: %d", e)
		}
		for _, w := range []weigh.Weighing{{Left: l, Right: l}, {Left: l, Right: list(0)}, {Left: list(0), Right: l}} {
			if n, e := weigh.Shows(list(3, 3), w, heavy(0)); n != 0 || e != api.ErrShape {
				t.Errorf("Shows: %d %d", n, e)
			}
			if left, e := weigh.After(list(3, 3), w, 0); len(left) != 0 || e != api.ErrShape {
				t.Errorf("After: %v %d", left, e)
			}
		}
	}
	for _, l := range [][]weigh.Weighing{nil, {}} {
		if word, e := weigh.Word(2, l, heavy(1)); len(word) != 0 || e != api.OK {
			t.Errorf("Word: %v %d", word, e)
		}
		if a, b, e := weigh.Apart(2, l); a != light(0) || b != heavy(0) || e != api.ErrClash {
			t.Errorf("Apart: %v %v %d", a, b, e)
		}
	}
}

// P1: several callers at once do not disturb each other, and equal arguments have equal results.
func TestAtOnce(t *testing.T) {
	kinds := list(1, 1, 2, 2, 0, 3, 3, 0, 3, 2, 3)
	want, _ := weigh.Best(kinds)
	fixed, _ := weigh.Fixed(11, 3)
	done := make(chan bool)
	for range 8 {
		go func() {
			same := true
			for range 20 {
				w, e := weigh.Best(kinds)
				l, f := weigh.Fixed(11, 3)
				n, g := weigh.Fewest(kinds)
				same = same && equal(w, want) && e == api.OK && slices.EqualFunc(l, fixed, equal) && f == api.OK && n == 3 && g == api.OK
			}
			done <- same
		}()
	}
	for range 8 {
		if !<-done {
			t.Error("results differ from call to call")
		}
	}
}
