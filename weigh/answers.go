package weigh

import "slices"

// question asks whether a number of weighings is enough.
type question struct {
	amounts   amounts
	weighings int
}

// answers keeps the answers to questions, so that each of them is found only once.
type answers map[question]bool

// power returns how many words so many weighings can have: a power of 3.
func power(weighings int) int {
	n := 1
	for range weighings {
		n *= 3
	}
	return n
}

// enough returns whether a number of weighings is enough.
func (s answers) enough(a amounts, weighings int) bool {
	n := a.guesses()
	if n <= 1 {
		return true
	}
	// Guesses need different words, whatever is weighed.
	if n > power(weighings) {
		return false
	}
	q := question{a, weighings}
	known, found := s[q]
	if !found {
		known = s.some(a, weighings)
		s[q] = known
	}
	return known
}

// some returns whether there is a weighing after which one less is enough.
func (s answers) some(a amounts, weighings int) bool {
	for size := 1; 2*size <= a.cards(); size++ {
		for _, left := range a.parts(size) {
			if s.matched(a, left, weighings) {
				return true
			}
		}
	}
	return false
}

// matched returns whether a left side has a right one so that one weighing less is enough then.
func (s answers) matched(a, left amounts, weighings int) bool {
	for _, right := range a.less(left).parts(left.cards()) {
		if s.works(a.weighed(left, right), weighings) {
			return true
		}
	}
	return false
}

// works returns whether one weighing less is enough for what each result of a load leaves.
func (s answers) works(l load, weighings int) bool {
	for _, r := range results() {
		if !s.enough(l.after(r), weighings-1) {
			return false
		}
	}
	return true
}

// fewest returns the smallest number of weighings that is enough, and whether there is
// one. If it is the smallest one, each weighing leaves fewer guesses than there were,
// or it could be spared: so there are fewer weighings than guesses.
func (s answers) fewest(a amounts) (int, bool) {
	for n := range a.guesses() {
		if s.enough(a, n) {
			return n, true
		}
	}
	return 0, false
}

// best returns the first weighing after which one less is enough than the number that is.
func (s answers) best(kinds []int, weighings int) Weighing {
	all := amountsOf(kinds)
	cards := make([]int, 0, len(kinds))
	for card := range kinds {
		cards = append(cards, card)
	}
	failed := map[amounts]bool{}
	left := first(cards, len(cards)/2, func(list []int) bool {
		some := amountsOf(pick(kinds, list))
		if !failed[some] {
			failed[some] = !s.matched(all, some, weighings)
		}
		return !failed[some]
	})
	leftKinds := amountsOf(pick(kinds, left))
	others := slices.DeleteFunc(cards, func(card int) bool { return slices.Contains(left, card) })
	right := first(others, len(left), func(list []int) bool {
		rightKinds := amountsOf(pick(kinds, list))
		return len(list) == len(left) && s.works(all.weighed(leftKinds, rightKinds), weighings)
	})
	return Weighing{left, right}
}

// pick returns the kinds of some cards.
func pick(kinds, cards []int) []int {
	var some []int
	for _, c := range cards {
		some = append(some, kinds[c])
	}
	return some
}

// first returns the first list (R6) of some cards in ascending order, at most so
// many, that is wanted; none if there is no such list.
func first(cards []int, most int, wanted func(list []int) bool) []int {
	var list []int
	var extend func(from int) bool
	extend = func(from int) bool {
		if len(list) == most {
			return false
		}
		for i := from; i < len(cards); i++ {
			list = append(list, cards[i])
			if wanted(list) || extend(i+1) {
				return true
			}
			list = list[:len(list)-1]
		}
		return false
	}
	extend(0)
	return list
}
