package weigh

import "spadille/api"

// laidAll returns for each of some weighings fixed ahead where each card lies, or their error.
func laidAll(cards int, l []Weighing) ([][]side, api.Errno) {
	if cards < 1 || cards > MaxCards {
		return nil, api.ErrRange
	}
	if len(l) > MaxWeighings {
		return nil, api.ErrMany
	}
	var all [][]side
	for _, w := range l {
		places, e := placesOf(cards, w)
		if e != api.OK {
			return nil, e
		}
		all = append(all, places)
	}
	return all, api.OK
}

// word returns the outcomes of some weighings if a guess is true.
func word(all [][]side, g Guess) []int {
	var outcomes []int
	for _, places := range all {
		outcomes = append(outcomes, shown(g, places[g.Card]).outcome())
	}
	return outcomes
}

// row is where one card lies in each of some weighings. These tell all guesses apart
// just if no row is away throughout, and no two rows are the same, or are so with the
// sides of one of them exchanged: the words of a card are its row, and its row exchanged.
type row []side

// exchanged returns a row with both sides exchanged.
func (r row) exchanged() row {
	var other row
	for _, at := range r {
		switch at {
		case onLeft:
			at = onRight
		case onRight:
			at = onLeft
		}
		other = append(other, at)
	}
	return other
}

// after returns a row that has one weighing more before its others.
func (r row) after(at side) row { return append(row{at}, r...) }

// allRows returns all rows.
func allRows(weighings int) []row {
	if weighings == 0 {
		return []row{nil}
	}
	var rows []row
	for at := away; at <= onRight; at++ {
		for _, r := range allRows(weighings - 1) {
			rows = append(rows, r.after(at))
		}
	}
	return rows
}

// leftFirst returns all rows of cards that lie on the left where they are first on the
// balance: of each row that is not away throughout and the one exchanged, one of both.
func leftFirst(weighings int) []row {
	if weighings == 0 {
		return nil
	}
	var rows []row
	for _, r := range leftFirst(weighings - 1) {
		rows = append(rows, r.after(away))
	}
	for _, r := range allRows(weighings - 1) {
		rows = append(rows, r.after(onLeft))
	}
	return rows
}

// choose chooses so many more of some rows, each one as it is or exchanged, so that
// together with those that are chosen already they make weighings; it returns all
// that are chosen, and whether there are such rows.
func choose(rows, chosen []row, more int) ([]row, bool) {
	if len(chosen) > 0 && !within(chosen, more) {
		return nil, false
	}
	if more == 0 {
		return chosen, used(chosen)
	}
	for i := 0; i+more <= len(rows); i++ {
		for _, r := range [...]row{rows[i], rows[i].exchanged()} {
			if all, found := choose(rows[i+1:], append(chosen, r), more-1); found {
				return all, true
			}
		}
	}
	return nil, false
}

// within returns whether in each weighing both sides differ by at most so many
// cards: more than are still to be laid could not make them equal.
func within(chosen []row, most int) bool {
	for weighing := range chosen[0] {
		left, right := sizes(chosen, weighing)
		if left > right+most || right > left+most {
			return false
		}
	}
	return true
}

// used returns whether some card is on the balance in each weighing.
func used(chosen []row) bool {
	for weighing := range chosen[0] {
		if left, right := sizes(chosen, weighing); left+right == 0 {
			return false
		}
	}
	return true
}

// sizes returns how many cards are on both sides in a weighing.
func sizes(chosen []row, weighing int) (left, right int) {
	for _, r := range chosen {
		switch r[weighing] {
		case onLeft:
			left++
		case onRight:
			right++
		}
	}
	return left, right
}

// weighingsOf returns the weighings that rows make.
func weighingsOf(rows []row, weighings int) []Weighing {
	l := make([]Weighing, weighings)
	for card, r := range rows {
		for i, at := range r {
			switch at {
			case onLeft:
				l[i].Left = append(l[i].Left, card)
			case onRight:
				l[i].Right = append(l[i].Right, card)
			}
		}
	}
	return l
}
