package weigh

// amounts is how many cards of each kind there are. How many weighings are enough
// for a case depends on nothing else.
type amounts [Both + 1]int

// amountsOf returns the amounts of some kinds.
func amountsOf(kinds []int) amounts {
	var a amounts
	for _, k := range kinds {
		a[k]++
	}
	return a
}

// cards returns how many cards there are.
func (a amounts) cards() int { return a[Good] + a[Heavy] + a[Light] + a[Both] }

// guesses returns how many guesses are possible.
func (a amounts) guesses() int { return a[Heavy] + a[Light] + 2*a[Both] }

// less returns the amounts that remain if some cards are taken out.
func (a amounts) less(some amounts) amounts {
	for kind, n := range some {
		a[kind] -= n
	}
	return a
}

// parts returns the amounts of so many of the cards, in all ways to choose them.
func (a amounts) parts(size int) []amounts {
	var all []amounts
	for good := range min(a[Good], size) + 1 {
		for heavy := range min(a[Heavy], size-good) + 1 {
			for light := range min(a[Light], size-good-heavy) + 1 {
				if both := size - good - heavy - light; both <= a[Both] {
					all = append(all, amounts{Good: good, Heavy: heavy, Light: light, Both: both})
				}
			}
		}
	}
	return all
}

// load is the amounts of the cards at each side.
type load [onRight + 1]amounts

// weighed returns the load if some of the cards are on the left, and some on the right.
func (a amounts) weighed(left, right amounts) load {
	return load{away: a.less(left).less(right), onLeft: left, onRight: right}
}

// after returns the amounts of what a result leaves.
func (l load) after(r result) amounts {
	var left amounts
	for at, some := range l {
		for kind, n := range some {
			left[leaves(r, kind, side(at))] += n
		}
	}
	return left
}
