package weigh_test

import (
	"math"
	"slices"
	"testing"

	"spadille/api"
	"spadille/weigh"
)

// This file says again what the chapter's definitions say, as plainly as possible and
// without the package, so that the other tests can compare the package with it.

func list(l ...int) []int { return l }

// times returns a list with the same number so many times.
func times(n, many int) []int { return slices.Repeat(list(n), many) }

// against returns a weighing of one card against another one.
func against(left, right int) weigh.Weighing {
	return weigh.Weighing{Left: list(left), Right: list(right)}
}

func light(card int) weigh.Guess { return weigh.Guess{Card: card} }

func heavy(card int) weigh.Guess { return weigh.Guess{Card: card, Heavy: true} }

// equal returns whether weighings are the same.
func equal(a, b weigh.Weighing) bool {
	return slices.Equal(a.Left, b.Left) && slices.Equal(a.Right, b.Right)
}

// allGuesses returns all guesses of so many cards in ascending order.
func allGuesses(cards int) []weigh.Guess {
	var all []weigh.Guess
	for card := range cards {
		all = append(all, light(card), heavy(card))
	}
	return all
}

// possible returns whether a guess is possible.
func possible(kinds []int, g weigh.Guess) bool {
	if g.Card < 0 || g.Card >= len(kinds) {
		return false
	}
	switch kinds[g.Card] {
	case 1:
		return g.Heavy
	case 2:
		return !g.Heavy
	case 3:
		return true
	}
	return false
}

// guessesOf returns all possible guesses in ascending order.
func guessesOf(kinds []int) []weigh.Guess {
	var all []weigh.Guess
	for _, g := range allGuesses(len(kinds)) {
		if possible(kinds, g) {
			all = append(all, g)
		}
	}
	return all
}

// outcomeOf returns the outcome of a weighing if a guess is true.
func outcomeOf(w weigh.Weighing, g weigh.Guess) int {
	switch {
	case slices.Contains(w.Left, g.Card) && g.Heavy, slices.Contains(w.Right, g.Card) && !g.Heavy:
		return 1
	case slices.Contains(w.Left, g.Card), slices.Contains(w.Right, g.Card):
		return 2
	}
	return 0
}

// afterOf returns the case in which just the guesses with an outcome are possible, and how many these are.
func afterOf(kinds []int, w weigh.Weighing, outcome int) ([]int, int) {
	left, n := make([]int, len(kinds)), 0
	for _, g := range guessesOf(kinds) {
		if outcomeOf(w, g) != outcome {
			continue
		}
		n++
		switch {
		case left[g.Card] != 0:
			left[g.Card] = 3
		case g.Heavy:
			left[g.Card] = 1
		default:
			left[g.Card] = 2
		}
	}
	return left, n
}

// verdict returns the error of a case.
func verdict(kinds []int) api.Errno {
	switch {
	case len(kinds) == 0:
		return api.ErrEmpty
	case len(kinds) > 14:
		return api.ErrMany
	case slices.ContainsFunc(kinds, func(k int) bool { return k < 0 || k > 3 }):
		return api.ErrKind
	case slices.Max(kinds) == 0:
		return api.ErrNone
	}
	return api.OK
}

// verdictOf returns the error of a weighing.
func verdictOf(cards int, w weigh.Weighing) api.Errno {
	all := slices.Concat(w.Left, w.Right)
	for i, c := range all {
		if c < 0 || c >= cards {
			return api.ErrNone
		}
		if slices.Contains(all[:i], c) {
			return api.ErrTwice
		}
	}
	if len(w.Left) == 0 || len(w.Left) != len(w.Right) {
		return api.ErrShape
	}
	return api.OK
}

// wrong returns cases that are not valid.
func wrong() [][]int {
	return [][]int{
		nil, {}, times(3, 15), times(0, 15), times(9, 15), times(3, 1000), {4}, {-1}, {3, 3, 4}, {0, 0, -1}, {0, math.MaxInt},
		{math.MinInt, 3}, {0}, {0, 0, 0}, times(0, 14),
	}
}

// sublists returns all lists of at most so many of some cards, each one in ascending order, in the order of R6.
func sublists(cards []int, most int) [][]int {
	all := [][]int{nil}
	if most == 0 {
		return all
	}
	for i, c := range cards {
		for _, l := range sublists(cards[i+1:], most-1) {
			all = append(all, append(list(c), l...))
		}
	}
	return all
}

// upTo returns the numbers from 0 to before another one.
func upTo(n int) []int {
	var l []int
	for i := range n {
		l = append(l, i)
	}
	return l
}

// without returns the numbers that are not in another list.
func without(l, some []int) []int {
	return slices.DeleteFunc(slices.Clone(l), func(n int) bool { return slices.Contains(some, n) })
}

// eachWeighing calls a function for all weighings whose sides are in ascending order, by
// their left sides and then by their right ones, until it returns false.
func eachWeighing(cards int, each func(w weigh.Weighing) bool) {
	for _, left := range sublists(upTo(cards), cards/2) {
		for _, right := range sublists(without(upTo(cards), left), len(left)) {
			if len(left) > 0 && len(right) == len(left) && !each(weigh.Weighing{Left: left, Right: right}) {
				return
			}
		}
	}
}

// weighings returns all weighings whose sides are in ascending order.
func weighings(cards int) []weigh.Weighing {
	var all []weigh.Weighing
	eachWeighing(cards, func(w weigh.Weighing) bool {
		all = append(all, w)
		return true
	})
	return all
}

// allKinds returns all lists of so many kinds.
func allKinds(cards int) [][]int {
	all := [][]int{nil}
	for range cards {
		var longer [][]int
		for _, l := range all {
			for kind := range 4 {
				longer = append(longer, append(slices.Clone(l), kind))
			}
		}
		all = longer
	}
	return all
}

// sortedCases returns all cases of at most so many cards whose kinds are in ascending order.
func sortedCases(most int) [][]int {
	all := [][]int{nil}
	for i := 0; i < len(all); i++ {
		for kind := range 4 {
			if l := all[i]; len(l) < most && (len(l) == 0 || l[len(l)-1] <= kind) {
				all = append(all, append(slices.Clone(l), kind))
			}
		}
	}
	return slices.DeleteFunc(all, func(l []int) bool { return verdict(l) != api.OK })
}

// brute answers by the definition whether numbers of weighings are enough.
type brute struct {
	known map[string]bool
	all   map[int][]weigh.Weighing
}

func newBrute() brute { return brute{map[string]bool{}, map[int][]weigh.Weighing{}} }

// enough returns whether a number of weighings is enough.
func (b brute) enough(kinds []int, n int) bool {
	if len(guessesOf(kinds)) <= 1 {
		return true
	}
	if n == 0 {
		return false
	}
	kinds = slices.Sorted(slices.Values(kinds))
	key := string(rune('0' + n))
	for _, k := range kinds {
		key += string(rune('0' + k))
	}
	yes, found := b.known[key]
	if !found {
		if b.all[len(kinds)] == nil {
			b.all[len(kinds)] = weighings(len(kinds))
		}
		yes = slices.ContainsFunc(b.all[len(kinds)], func(w weigh.Weighing) bool { return b.works(kinds, w, n) })
		b.known[key] = yes
	}
	return yes
}

// works returns whether one weighing less is enough for what each outcome leaves.
func (b brute) works(kinds []int, w weigh.Weighing, n int) bool {
	for outcome := range 3 {
		if left, _ := afterOf(kinds, w, outcome); !b.enough(left, n-1) {
			return false
		}
	}
	return true
}

// power returns 3 to the power of n.
func power(n int) int {
	if n == 0 {
		return 1
	}
	return 3 * power(n-1)
}

// fewestOf returns how many weighings are enough: the first number for which there are
// enough words, but for the cases that are named here. The tests compare this rule with
// the definition where that is possible, and prove it by weighings where it is not.
func fewestOf(kinds []int) (int, api.Errno) {
	kinds = slices.Sorted(slices.Values(kinds))
	guesses := len(guessesOf(kinds))
	if guesses > 1 && (len(kinds) == 1 || len(kinds) == 2 && kinds[0] != 0 && kinds[1] != kinds[0] || slices.Equal(kinds, times(3, 2))) {
		return 0, api.ErrLost
	}
	n := 0
	for power(n) < guesses {
		n++
	}
	// Without a Good card, both sides have an even number of such cards together, so what tilts are left cannot be odd.
	if without := slices.DeleteFunc(slices.Clone(kinds), func(k int) bool { return k == 3 }); len(without) == 0 || len(without) == 1 && without[0] != 0 {
		if both := len(kinds) - len(without); both > 0 && 2*both == power(n)-1 {
			n++
		}
	}
	return n, api.OK
}

// wordOf returns the outcomes of weighings if a guess is true.
func wordOf(l []weigh.Weighing, g weigh.Guess) []int {
	var word []int
	for _, w := range l {
		word = append(word, outcomeOf(w, g))
	}
	return word
}

// alikeOf returns the first two guesses that have the same word, and whether there are some.
func alikeOf(cards int, l []weigh.Weighing) (a, b weigh.Guess, found bool) {
	all := allGuesses(cards)
	for i, a := range all {
		for _, b := range all[i+1:] {
			if slices.Equal(wordOf(l, a), wordOf(l, b)) {
				return a, b, true
			}
		}
	}
	return weigh.Guess{}, weigh.Guess{}, false
}

// mustFewest returns Fewest of a case.
func mustFewest(t *testing.T, kinds []int) int {
	t.Helper()
	n, e := weigh.Fewest(kinds)
	if e != api.OK {
		t.Fatalf("Fewest of %v: %d", kinds, e)
	}
	return n
}

// needs returns Fewest of a case, or more than any number if there is none.
func needs(t *testing.T, kinds []int) int {
	t.Helper()
	n, e := weigh.Fewest(kinds)
	if e == api.ErrLost {
		return math.MaxInt
	}
	if e != api.OK {
		t.Fatalf("Fewest of %v: %d", kinds, e)
	}
	return n
}
