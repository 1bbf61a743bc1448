package cut

// counter returns a memo of the numbers of ways to fill what is left of a sheet, by the squares that are covered.
func counter(s Sheet) *memo[squares, int] {
	return newMemo(func(m *memo[squares, int], covered squares) int {
		if covered == whole(s) {
			return 1
		}
		sum := 0
		for _, c := range next(s, covered) {
			n := m.of(covered | under(s, c))
			sum += n
		}
		return sum
	})
}

// ends are the smallest and the greatest number of upright cards, if there is any way to fill.
type ends struct {
	least int
	most  int
	found bool
}

// more returns ends with one more upright card.
func (a ends) more() ends { return ends{a.least + 1, a.most + 1, a.found} }

// or returns the ends of two kinds of ways together.
func (a ends) or(b ends) ends {
	switch {
	case !a.found:
		return b
	case !b.found:
		return a
	}
	return ends{min(a.least, b.least), max(a.most, b.most), true}
}

// uprights returns a memo of the ends of the ways to fill what is left of a sheet, by the squares that are covered.
func uprights(s Sheet) *memo[squares, ends] {
	return newMemo(func(m *memo[squares, ends], covered squares) ends {
		if covered == whole(s) {
			return ends{found: true}
		}
		var all ends
		for _, c := range next(s, covered) {
			rest := m.of(covered | under(s, c))
			if !c.Turned {
				rest = rest.more()
			}
			all = all.or(rest)
		}
		return all
	})
}

// search returns the first filling that is wanted, and whether there is one. It
// lays no card after which the sheet cannot be filled, so that it never has to
// go back but from fillings that are not wanted.
func search(s Sheet, wanted func(l []Card) bool) ([]Card, bool) {
	counts := counter(s)
	var l []Card
	var lay func(covered squares) bool
	lay = func(covered squares) bool {
		if covered == whole(s) {
			return wanted(l)
		}
		for _, c := range next(s, covered) {
			rest := covered | under(s, c)
			if counts.of(rest) == 0 {
				continue
			}
			l = append(l, c)
			if lay(rest) {
				return true
			}
			l = l[:len(l)-1]
		}
		return false
	}
	if !lay(0) {
		return nil, false
	}
	return l, true
}
