package back

// turnSet is a set of turns of a press; each has the bit of its place in Turns.
type turnSet uint8

// shown returns, for each cell of a back, the turns by which it gets another colour.
func (l plate) shown(back []int) []turnSet {
	sets := make([]turnSet, len(back))
	for i, from := range l.from {
		for cell, source := range from {
			if back[cell] != back[source] {
				sets[cell] |= 1 << i
			}
		}
	}
	return sets
}

// union returns the turns that are in any of some sets.
func union(sets []turnSet) turnSet {
	all := turnSet(0)
	for _, s := range sets {
		all |= s
	}
	return all
}

// fewest returns the first of the shortest lists of cells that show all turns that any cell shows.
func fewest(shown []turnSet) []int {
	for size := range len(shown) + 1 {
		if cells, found := pick(shown, 0, size, union(shown)); found {
			return cells
		}
	}
	// Not reached, as all cells together show all of these turns.
	return nil
}

// pick returns the first list of so many cells, none of them before a given one,
// that show all missing turns, and whether there is one.
func pick(shown []turnSet, from, size int, missing turnSet) ([]int, bool) {
	if size == 0 {
		return nil, missing == 0
	}
	for cell := from; cell < len(shown); cell++ {
		if rest, found := pick(shown, cell+1, size-1, missing&^shown[cell]); found {
			return append([]int{cell}, rest...), true
		}
	}
	return nil, false
}
