package press

import (
	"slices"

	"spadille/api"
)

// checkSeen returns the error of a table, or else that of what was seen.
func checkSeen(table [][]int, seen []Seen) api.Errno {
	if e := Check(table); e != api.OK {
		return e
	}
	var known [MaxMeasures]bool
	for _, s := range seen {
		if !isMeasure(table, s.Measure) {
			return api.ErrNone
		}
		if known[s.Measure] {
			return api.ErrTwice
		}
		if !isValue(s.Value) {
			return api.ErrRange
		}
		known[s.Measure] = true
	}
	return api.OK
}

// from returns all positions that fit what was seen.
func from(table [][]int, seen []Seen) []int {
	return slices.DeleteFunc(positions(table), func(position int) bool {
		return slices.ContainsFunc(seen, func(s Seen) bool { return table[position][s.Measure] != s.Value })
	})
}

// next returns the first measure that leaves as few of these positions as possible, whichever value
// it has, or ErrClash if no measure leaves fewer than there are.
func next(table [][]int, list []int) (int, api.Errno) {
	best, least := 0, len(list)
	for measure := range table[0] {
		if most := greatest(split(table, list, measure)); most < least {
			best, least = measure, most
		}
	}
	if least == len(list) {
		return 0, api.ErrClash
	}
	return best, api.OK
}

// greatest returns how many elements the greatest of some groups has.
func greatest(groups [][]int) int {
	most := 0
	for _, group := range groups {
		most = max(most, len(group))
	}
	return most
}

// depths tells how deep lists of positions of a table are. What is found is kept, since the same
// positions are left by the same measures in whatever order they are seen.
type depths struct {
	table [][]int
	known [1 << MaxPositions]int
}

// deep returns how deep a list is of positions that can all be told apart.
func (d *depths) deep(list []int) int {
	if len(list) == 1 {
		return 0
	}
	set := 0
	for _, position := range list {
		set |= 1 << position
	}
	if d.known[set] == 0 {
		d.known[set] = d.search(list)
	}
	return d.known[set]
}

// search returns how deep a list is of at least two positions.
func (d *depths) search(list []int) int {
	// One measure less than there are positions is always enough (P6.10).
	least := len(list) - 1
	for measure := range d.table[0] {
		if groups := split(d.table, list, measure); len(groups) > 1 {
			least = min(least, 1+d.deepest(groups))
		}
	}
	return least
}

// deepest returns how deep the deepest of some lists is.
func (d *depths) deepest(lists [][]int) int {
	most := 0
	for _, list := range lists {
		most = max(most, d.deep(list))
	}
	return most
}
