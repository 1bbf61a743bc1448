package weigh_test

import (
	"math/rand/v2"
	"slices"
	"testing"

	"spadille/api"
	"spadille/weigh"
)

// P4.7: for how many cards of the kind Both weighings are enough, alone and with Good ones, and for how many they can be fixed ahead.
func TestP4_7HowMany(t *testing.T) {
	for n := 1; n <= 4; n++ {
		for cards := 1; cards <= 14; cards++ {
			alone := cards >= 3 && cards <= (power(n)-3)/2
			if enough := needs(t, times(3, cards)) <= n; enough != alone {
				t.Errorf("%d weighings for %d cards are enough: %v", n, cards, enough)
			}
			if l, e := weigh.Fixed(cards, n); (e == api.OK) != alone {
				t.Errorf("%d weighings for %d cards are fixed ahead: %v %d", n, cards, l, e)
			}
			for good := 1; good+cards <= 14; good++ {
				if enough := needs(t, append(times(0, good), times(3, cards)...)) <= n; enough != (cards <= (power(n)-1)/2) {
					t.Errorf("%d weighings for %d cards and %d that are right are enough: %v", n, cards, good, enough)
				}
			}
		}
	}
}

// P4.8: at most as many guesses are possible as there are words.
func TestP4_8Third(t *testing.T) {
	for _, kinds := range sortedCases(14) {
		if n, e := weigh.Fewest(kinds); e == api.OK && len(guessesOf(kinds)) > power(n) {
			t.Errorf("%d weighings for %v", n, kinds)
		}
	}
}

// P4.8: what outcomes leave has, all together, as many possible guesses as there were before.
func TestP4_8Sum(t *testing.T) {
	r := rand.New(rand.NewPCG(4, 8))
	for range 3000 {
		cards := 2 + r.IntN(13)
		kinds, w := someKinds(cards, r), someWeighing(cards, r)
		before, e := weigh.Guesses(kinds)
		sum := 0
		for outcome := range 3 {
			if left, e := weigh.After(kinds, w, outcome); e == api.OK {
				l, f := weigh.Guesses(left)
				if f != api.OK || len(l) == 0 {
					t.Fatalf("Guesses of %v: %v %d", left, l, f)
				}
				sum += len(l)
			}
		}
		if e != api.OK || sum != len(before) {
			t.Fatalf("%v, %v: %d guesses, and then %d", kinds, w, len(before), sum)
		}
	}
}

// P4.9: for how many cards of the kind Heavy, or Light, alone weighings are enough.
func TestP4_9OneKind(t *testing.T) {
	for cards := 1; cards <= 14; cards++ {
		for _, kind := range list(1, 2) {
			want := 0
			for power(want) < cards {
				want++
			}
			if n := mustFewest(t, times(kind, cards)); n != want {
				t.Errorf("Fewest of %d times %d: %d, want %d", cards, kind, n, want)
			}
		}
	}
}

// P4.10: which cards an outcome clears, and the guess that is true remains possible, whatever was weighed before.
func TestP4_10Cleared(t *testing.T) {
	r := rand.New(rand.NewPCG(4, 11))
	for range 3000 {
		cards := 2 + r.IntN(13)
		kinds := someKinds(cards, r)
		guesses := guessesOf(kinds)
		g := guesses[r.IntN(len(guesses))]
		for range 4 {
			w := someWeighing(cards, r)
			outcome, e := weigh.Shows(kinds, w, g)
			left, f := weigh.After(kinds, w, outcome)
			if e != api.OK || f != api.OK || !possible(left, g) {
				t.Fatalf("%v, %v, %v: %d %d, then %v %d", kinds, w, g, outcome, e, left, f)
			}
			for card, kind := range left {
				on := slices.Contains(w.Left, card) || slices.Contains(w.Right, card)
				if on == (outcome == weigh.Even) && kind != weigh.Good {
					t.Fatalf("%v, %v, %d: %v", kinds, w, outcome, left)
				}
			}
			kinds = left
		}
	}
}

// P4.11: both words of a card are alike but for Left and Right exchanged, and of weighings that tell all guesses apart none is Even alone.
func TestP4_11Words(t *testing.T) {
	r := rand.New(rand.NewPCG(4, 12))
	apart := 0
	for range 5000 {
		cards := 3 + r.IntN(6)
		var l []weigh.Weighing
		for range 1 + r.IntN(4) {
			l = append(l, someWeighing(cards, r))
		}
		var words [][]int
		for _, g := range allGuesses(cards) {
			word, e := weigh.Word(cards, l, g)
			if e != api.OK {
				t.Fatalf("Word of %d, %v, %v: %d", cards, l, g, e)
			}
			words = append(words, word)
			if g.Heavy && !slices.Equal(exchanged(word), words[len(words)-2]) {
				t.Fatalf("%d, %v: the words of %d are %v and %v", cards, l, g.Card, words[len(words)-2], word)
			}
		}
		even := slices.ContainsFunc(words, func(word []int) bool { return slices.Max(word) == 0 })
		slices.SortFunc(words, slices.Compare)
		different := len(slices.CompactFunc(words, slices.Equal)) == 2*cards
		_, _, e := weigh.Apart(cards, l)
		if (e == api.OK) != different || different && even {
			t.Fatalf("Apart of %d, %v: %d", cards, l, e)
		}
		if different {
			apart++
		}
	}
	if apart < 50 {
		t.Errorf("only %d lists of weighings tell all guesses apart", apart)
	}
}

// exchanged returns a list in which 1 and 2 are exchanged: kinds or outcomes.
func exchanged(l []int) []int {
	var other []int
	for _, n := range l {
		if n == 1 || n == 2 {
			n = 3 - n
		}
		other = append(other, n)
	}
	return other
}

// P4.12: if both sides are exchanged, so are outcomes; also if all kinds and guesses are.
func TestP4_12Outcomes(t *testing.T) {
	r := rand.New(rand.NewPCG(4, 13))
	for range 3000 {
		cards := 2 + r.IntN(13)
		kinds, w := someKinds(cards, r), someWeighing(cards, r)
		turned := weigh.Weighing{Left: w.Right, Right: w.Left}
		for _, g := range guessesOf(kinds) {
			n, e := weigh.Shows(kinds, w, g)
			m, f := weigh.Shows(kinds, turned, g)
			o, h := weigh.Shows(exchanged(kinds), w, weigh.Guess{Card: g.Card, Heavy: !g.Heavy})
			if e != api.OK || f != api.OK || h != api.OK || exchanged(list(n))[0] != m || m != o {
				t.Fatalf("%v, %v, %v: %d %d, %d %d, %d %d", kinds, w, g, n, e, m, f, o, h)
			}
		}
		for outcome := range 3 {
			other := exchanged(list(outcome))[0]
			a, e := weigh.After(kinds, w, outcome)
			b, f := weigh.After(kinds, turned, other)
			c, h := weigh.After(exchanged(kinds), w, other)
			if e != f || e != h || !slices.Equal(a, b) || !slices.Equal(exchanged(a), c) {
				t.Fatalf("%v, %v, %d: %v %d, %v %d, %v %d", kinds, w, outcome, a, e, b, f, c, h)
			}
		}
	}
}

// P4.12: with all kinds exchanged, or with other numbers of cards, as many weighings are enough.
func TestP4_12Fewest(t *testing.T) {
	r := rand.New(rand.NewPCG(4, 14))
	for _, kinds := range sortedCases(14) {
		n := needs(t, kinds)
		if m := needs(t, exchanged(kinds)); n != m {
			t.Errorf("%v: %d, but exchanged %d", kinds, n, m)
		}
		mixed := slices.Clone(kinds)
		r.Shuffle(len(mixed), func(i, k int) { mixed[i], mixed[k] = mixed[k], mixed[i] })
		if m := needs(t, mixed); n != m {
			t.Errorf("%v: %d, but %v: %d", kinds, n, mixed, m)
		}
	}
}

// P4.13: with a Good card more, or with fewer possible guesses and as many cards, no more weighings are needed.
func TestP4_13More(t *testing.T) {
	for _, kinds := range sortedCases(14) {
		n := needs(t, kinds)
		if len(kinds) < 14 {
			if m := needs(t, append(slices.Clone(kinds), 0)); m > n {
				t.Errorf("%v: %d, but with a Good card %d", kinds, n, m)
			}
		}
		for _, g := range guessesOf(kinds) {
			fewer, kind := slices.Clone(kinds), weigh.Light
			if g.Heavy {
				kind = weigh.Heavy
			}
			fewer[g.Card] -= kind
			if verdict(fewer) != api.OK {
				continue
			}
			if m := needs(t, fewer); m > n {
				t.Errorf("%v: %d, but %v: %d", kinds, n, fewer, m)
			}
		}
	}
}
