package weigh_test

import (
	"math/rand/v2"
	"slices"
	"testing"

	"spadille/api"
	"spadille/weigh"
)

// P4.1: Check, Guesses and Found of all short lists of numbers, compared with the definitions.
func TestP4_1AllLists(t *testing.T) {
	lists := [][]int{nil}
	for from := 0; len(lists[from]) < 5; from++ {
		for n := -1; n <= 4; n++ {
			lists = append(lists, append(slices.Clone(lists[from]), n))
		}
	}
	seen := map[api.Errno]int{}
	for _, kinds := range lists {
		want := verdict(kinds)
		if e := weigh.Check(kinds); e != want {
			t.Fatalf("Check of %v: %d, want %d", kinds, e, want)
		}
		var guesses []weigh.Guess
		var found weigh.Guess
		if want == api.OK {
			guesses = guessesOf(kinds)
		}
		if l, e := weigh.Guesses(kinds); !slices.Equal(l, guesses) || e != want {
			t.Fatalf("Guesses of %v: %v %d, want %v %d", kinds, l, e, guesses, want)
		}
		if len(guesses) == 1 {
			found = guesses[0]
		} else if want == api.OK {
			want = api.ErrOpen
		}
		if g, e := weigh.Found(kinds); g != found || e != want {
			t.Fatalf("Found of %v: %v %d, want %v %d", kinds, g, e, found, want)
		}
		seen[want]++
	}
	for _, e := range []api.Errno{api.OK, api.ErrEmpty, api.ErrKind, api.ErrNone, api.ErrOpen} {
		if seen[e] == 0 {
			t.Errorf("no list has the error %d", e)
		}
	}
}

// numberLists returns all lists of at most so many numbers from -1 to another one.
func numberLists(longest, most int) [][]int {
	all := [][]int{nil}
	for from := 0; from < len(all); from++ {
		for n := -1; n <= most && len(all[from]) < longest; n++ {
			all = append(all, append(slices.Clone(all[from]), n))
		}
	}
	return all
}

// P4.2: the errors of weighings with all short lists at both sides, compared with the promise.
func TestP4_2AllWeighings(t *testing.T) {
	kinds := list(3, 1, 2)
	seen := map[api.Errno]int{}
	for _, left := range numberLists(3, 3) {
		for _, right := range numberLists(3, 3) {
			w := weigh.Weighing{Left: left, Right: right}
			want := verdictOf(3, w)
			seen[want]++
			if _, e := weigh.Shows(kinds, w, heavy(1)); e != want {
				t.Fatalf("Shows of %v: %d, want %d", w, e, want)
			}
			if l, e := weigh.Word(3, []weigh.Weighing{w}, heavy(0)); e != want || len(l) > 0 != (want == api.OK) {
				t.Fatalf("Word of %v: %v %d, want %d", w, l, e, want)
			}
			if want == api.OK {
				continue
			}
			if l, e := weigh.After(kinds, w, 0); e != want || len(l) != 0 {
				t.Fatalf("After of %v: %v %d, want %d", w, l, e, want)
			}
			if a, b, e := weigh.Apart(3, []weigh.Weighing{w}); e != want || a != light(0) || b != light(0) {
				t.Fatalf("Apart of %v: %v %v %d, want %d", w, a, b, e, want)
			}
		}
	}
	for _, e := range []api.Errno{api.OK, api.ErrNone, api.ErrTwice, api.ErrShape} {
		if seen[e] == 0 {
			t.Errorf("no weighing has the error %d", e)
		}
	}
}

// checkWeighing compares Shows and After of a case and a weighing with the definitions.
func checkWeighing(t *testing.T, kinds []int, w weigh.Weighing) {
	t.Helper()
	for _, g := range append(allGuesses(len(kinds)+1), light(-1), heavy(-1)) {
		outcome, want := 0, api.ErrLost
		if possible(kinds, g) {
			outcome, want = outcomeOf(w, g), api.OK
		}
		if n, e := weigh.Shows(kinds, w, g); n != outcome || e != want {
			t.Fatalf("Shows of %v, %v, %v: %d %d, want %d %d", kinds, w, g, n, e, outcome, want)
		}
	}
	for outcome := -1; outcome <= 3; outcome++ {
		left, n := afterOf(kinds, w, outcome)
		want := api.OK
		switch {
		case outcome < 0 || outcome > 2:
			left, want = nil, api.ErrKind
		case n == 0:
			left, want = nil, api.ErrLost
		}
		if l, e := weigh.After(kinds, w, outcome); !slices.Equal(l, left) || e != want {
			t.Fatalf("After of %v, %v, %d: %v %d, want %v %d", kinds, w, outcome, l, e, left, want)
		}
	}
}

// P4.3: Shows and After of all small cases, all weighings, guesses and outcomes, compared with the definitions.
func TestP4_3AllSmall(t *testing.T) {
	for cards := 1; cards <= 5; cards++ {
		all := weighings(cards)
		for _, kinds := range allKinds(cards) {
			if verdict(kinds) != api.OK {
				continue
			}
			for _, w := range all {
				checkWeighing(t, kinds, w)
			}
		}
	}
}

// someKinds returns a case with so many cards.
func someKinds(cards int, r *rand.Rand) []int {
	kinds := make([]int, cards)
	for i := range kinds {
		kinds[i] = r.IntN(4)
	}
	kinds[r.IntN(cards)] = 1 + r.IntN(3)
	return kinds
}

// someWeighing returns a weighing with sides in any order.
func someWeighing(cards int, r *rand.Rand) weigh.Weighing {
	l := r.Perm(cards)
	n := 1 + r.IntN(cards/2)
	return weigh.Weighing{Left: l[:n], Right: l[n : 2*n]}
}

// P4.3: Shows and After of large cases, with sides in any order, compared with the definitions.
func TestP4_3Large(t *testing.T) {
	r := rand.New(rand.NewPCG(4, 3))
	for range 2000 {
		cards := 6 + r.IntN(9)
		checkWeighing(t, someKinds(cards, r), someWeighing(cards, r))
	}
}

// bestOf returns the first weighing after which one weighing less is enough.
func bestOf(kinds []int, enough func(kinds []int) bool) weigh.Weighing {
	var best weigh.Weighing
	eachWeighing(len(kinds), func(w weigh.Weighing) bool {
		for outcome := range 3 {
			if left, n := afterOf(kinds, w, outcome); n > 1 && !enough(left) {
				return true
			}
		}
		best = w
		return false
	})
	return best
}

// checkBest compares Fewest and Best of a case with numbers of weighings that are enough.
func checkBest(t *testing.T, kinds []int, n int, want api.Errno, enough func(kinds []int) bool) {
	t.Helper()
	if f, e := weigh.Fewest(kinds); f != n || e != want {
		t.Fatalf("Fewest of %v: %d %d, want %d %d", kinds, f, e, n, want)
	}
	var best weigh.Weighing
	switch {
	case want == api.OK && n == 0:
		want = api.ErrClash
	case want == api.OK:
		best = bestOf(kinds, enough)
	}
	if w, e := weigh.Best(kinds); !equal(w, best) || e != want {
		t.Fatalf("Best of %v: %v %d, want %v %d", kinds, w, e, best, want)
	}
}

// P4.4: Fewest and Best of all small cases, compared with the definitions.
func TestP4_4AllSmall(t *testing.T) {
	b := newBrute()
	for cards := 1; cards <= 6; cards++ {
		for _, kinds := range allKinds(cards) {
			if verdict(kinds) != api.OK {
				continue
			}
			n, e := 0, api.OK
			for n < 13 && !b.enough(kinds, n) {
				n++
			}
			if n == 13 {
				n, e = 0, api.ErrLost
			}
			checkBest(t, kinds, n, e, func(kinds []int) bool { return b.enough(kinds, n-1) })
		}
	}
}

// The rule that the tests use for large cases is the definition for smaller ones.
func TestRule(t *testing.T) {
	b := newBrute()
	for _, kinds := range sortedCases(7) {
		n, e := fewestOf(kinds)
		if e == api.ErrLost {
			n = 8
		}
		if n > 0 && b.enough(kinds, n-1) || e == api.OK && !b.enough(kinds, n) {
			t.Fatalf("%v: %d weighings %d are not as few as possible, or not enough", kinds, n, e)
		}
	}
}

// P4.4: Fewest of all cases, compared with the rule; and, if fewer weighings were enough
// by their words alone, no weighing leaves at most a third of these words for each outcome.
func TestP4_4AllCases(t *testing.T) {
	seen := 0
	for _, kinds := range sortedCases(14) {
		n, want := fewestOf(kinds)
		if f, e := weigh.Fewest(kinds); f != n || e != want {
			t.Fatalf("Fewest of %v: %d %d, want %d %d", kinds, f, e, n, want)
		}
		guesses := guessesOf(kinds)
		if n == 0 || len(guesses) > power(n-1) {
			continue
		}
		seen++
		eachWeighing(len(kinds), func(w weigh.Weighing) bool {
			var count [3]int
			for _, g := range guesses {
				count[outcomeOf(w, g)]++
			}
			if slices.Max(count[:]) <= power(n-2) {
				t.Fatalf("%v: %v could be enough", kinds, w)
			}
			return true
		})
	}
	if seen != 6 {
		t.Errorf("%d cases need more weighings than their words alone tell", seen)
	}
}

// P4.4: Best of large cases, compared with all weighings.
func TestP4_4LargeBest(t *testing.T) {
	r := rand.New(rand.NewPCG(4, 4))
	for range 300 {
		kinds := someKinds(7+r.IntN(8), r)
		n, e := fewestOf(kinds)
		checkBest(t, kinds, n, e, func(kinds []int) bool {
			f, g := fewestOf(kinds)
			return g == api.OK && f < n
		})
	}
}

// P4.4, P4.10: who always does what Best returns finds whatever is true, after Fewest weighings at most.
func TestP4_4Play(t *testing.T) {
	r := rand.New(rand.NewPCG(4, 10))
	for _, kinds := range sortedCases(14) {
		if _, e := weigh.Fewest(kinds); e == api.ErrLost {
			continue
		}
		r.Shuffle(len(kinds), func(i, k int) { kinds[i], kinds[k] = kinds[k], kinds[i] })
		play(t, kinds, mustFewest(t, kinds))
	}
}

// play follows Best for all outcomes.
func play(t *testing.T, kinds []int, n int) {
	t.Helper()
	guesses := guessesOf(kinds)
	if len(guesses) == 1 {
		if g, e := weigh.Found(kinds); g != guesses[0] || e != api.OK {
			t.Fatalf("Found of %v: %v %d", kinds, g, e)
		}
		return
	}
	w, e := weigh.Best(kinds)
	if e != api.OK || n == 0 {
		t.Fatalf("Best of %v: %v %d, with %d weighings", kinds, w, e, n)
	}
	for outcome := range 3 {
		left, e := weigh.After(kinds, w, outcome)
		if e == api.OK {
			play(t, left, n-1)
		}
	}
}

// checkApart compares Apart and Word with the definitions.
func checkApart(t *testing.T, cards int, l []weigh.Weighing) {
	t.Helper()
	for _, g := range allGuesses(cards) {
		if word, e := weigh.Word(cards, l, g); !slices.Equal(word, wordOf(l, g)) || e != api.OK {
			t.Fatalf("Word of %d, %v, %v: %v %d, want %v", cards, l, g, word, e, wordOf(l, g))
		}
	}
	wantA, wantB, found := alikeOf(cards, l)
	want := api.OK
	if found {
		want = api.ErrClash
	}
	if a, b, e := weigh.Apart(cards, l); a != wantA || b != wantB || e != want {
		t.Fatalf("Apart of %d, %v: %v %v %d, want %v %v %d", cards, l, a, b, e, wantA, wantB, want)
	}
}

// lists returns all lists of so many weighings.
func lists(cards, many int) [][]weigh.Weighing {
	all := [][]weigh.Weighing{nil}
	for range many {
		var longer [][]weigh.Weighing
		for _, l := range all {
			for _, w := range weighings(cards) {
				longer = append(longer, append(slices.Clone(l), w))
			}
		}
		all = longer
	}
	return all
}

// P4.5: Word and Apart of few weighings of few cards, compared with the definitions.
func TestP4_5AllSmall(t *testing.T) {
	for cards := 1; cards <= 5; cards++ {
		for many := range 3 {
			for _, l := range lists(cards, many) {
				checkApart(t, cards, l)
			}
		}
	}
	for cards := 2; cards <= 3; cards++ {
		for _, l := range lists(cards, 4) {
			checkApart(t, cards, l)
		}
	}
}

// P4.5: Word and Apart of more weighings and cards, also of such that tell all guesses apart but for a few, compared with the definitions.
func TestP4_5Large(t *testing.T) {
	r := rand.New(rand.NewPCG(4, 5))
	for range 1000 {
		cards := 3 + r.IntN(12)
		var l []weigh.Weighing
		for range r.IntN(5) {
			l = append(l, someWeighing(cards, r))
		}
		checkApart(t, cards, l)
		if l, e := weigh.Fixed(cards, 4); e == api.OK {
			l[r.IntN(4)] = someWeighing(cards, r)
			checkApart(t, cards, l)
		}
	}
}

// P4.6, P4.7: Fixed of all numbers, compared with the promise: there are as many weighings, they are valid, and they tell all guesses apart.
func TestP4_6AllFixed(t *testing.T) {
	for cards := -1; cards <= 16; cards++ {
		for n := -1; n <= 6; n++ {
			want := api.OK
			switch {
			case cards < 1 || cards > 14 || n < 1 || n > 4:
				want = api.ErrRange
			case cards < 3 || cards > (power(n)-3)/2:
				want = api.ErrLost
			}
			l, e := weigh.Fixed(cards, n)
			if e != want || e != api.OK && len(l) != 0 {
				t.Fatalf("Fixed of %d, %d: %v %d, want %d", cards, n, l, e, want)
			}
			if e != api.OK {
				continue
			}
			if len(l) != n || slices.ContainsFunc(l, func(w weigh.Weighing) bool { return verdictOf(cards, w) != api.OK }) {
				t.Fatalf("Fixed of %d, %d: %v", cards, n, l)
			}
			if a, b, found := alikeOf(cards, l); found {
				t.Fatalf("Fixed of %d, %d: %v do not tell %v and %v apart", cards, n, l, a, b)
			}
			checkApart(t, cards, l)
		}
	}
}

// P4.6: where Fixed returns nothing, no weighings at all tell all guesses apart, as far as all of them can be tried.
func TestP4_6NoneFixed(t *testing.T) {
	for _, x := range [][2]int{{1, 1}, {1, 4}, {2, 1}, {2, 2}, {2, 3}, {2, 4}, {3, 1}, {4, 1}, {5, 1}, {4, 2}, {5, 2}, {6, 2}, {6, 1}, {9, 1}} {
		if l, e := weigh.Fixed(x[0], x[1]); e != api.ErrLost {
			t.Errorf("Fixed of %v: %v %d", x, l, e)
		}
		for _, l := range lists(x[0], x[1]) {
			if _, _, found := alikeOf(x[0], l); !found {
				t.Fatalf("Fixed of %v: %v tell all guesses apart", x, l)
			}
		}
	}
}

// P4.6: Most, compared with Fewest as far as there are so many cards.
func TestP4_6AllMost(t *testing.T) {
	for n := 1; n <= 4; n++ {
		for _, good := range []bool{false, true} {
			most, e := weigh.Most(n, good)
			if e != api.OK {
				t.Fatalf("Most of %d, %v: %d", n, good, e)
			}
			for cards := 1; cards <= 13; cards++ {
				kinds := times(3, cards)
				if good {
					kinds = append(kinds, 0)
				}
				if enough := needs(t, kinds) <= n; cards > most && enough || cards == most && !enough {
					t.Errorf("Most of %d, %v: %d, but %d cards", n, good, most, cards)
				}
			}
		}
	}
}
