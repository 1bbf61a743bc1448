package shuffle

import (
	"cmp"
	"iter"
	"slices"

	"spadille/api"
)

// isHeaps returns whether there can be so many heaps.
func isHeaps(n int) bool { return n >= 1 && n <= MaxHeaps }

// checkWith returns the error of a pack, or else that of a number of heaps.
func checkWith(pack []int, heaps int) api.Errno {
	if e := Check(pack); e != api.OK {
		return e
	}
	if !isHeaps(heaps) {
		return api.ErrRange
	}
	return api.OK
}

// allBelow returns whether all numbers of a list are from 0 to the limit less 1.
func allBelow(list []int, limit int) bool {
	return !slices.ContainsFunc(list, func(n int) bool { return n < 0 || n >= limit })
}

// taken returns the numbers that a list has at some places, in the order of these.
func taken(list, places []int) []int {
	l := make([]int, 0, len(places))
	for _, place := range places {
		l = append(l, list[place])
	}
	return l
}

// upTo returns the numbers from 0 to n less 1.
func upTo(n int) []int {
	l := make([]int, 0, n)
	for i := range n {
		l = append(l, i)
	}
	return l
}

// placeOf returns for each number of a pack its place.
func placeOf(pack []int) []int {
	l := make([]int, len(pack))
	for place, n := range pack {
		l[n] = place
	}
	return l
}

// sources returns for each place the one from which a riffle brings a card there.
func sources(riffle []int) []int {
	// The cards lie above each other as their heaps do, and those of one heap keep their order.
	goals := upTo(len(riffle))
	slices.SortStableFunc(goals, func(a, b int) int { return cmp.Compare(riffle[a], riffle[b]) })
	return placeOf(goals)
}

// halvings yields, in their order, as few riffles with two heaps as possible that make the sorted pack this pack.
// Each gives the cards one binary digit of the number of their row, the greatest digit first: what
// the riffles after it are still to do is to mix the cards by smaller digits, so until then the
// pack is sorted by these.
func halvings(pack []int) iter.Seq[[]int] {
	return func(yield func([]int) bool) {
		rows := rowOf(pack)
		for digit := digits(pack) - 1; digit >= 0; digit-- {
			if !yield(halving(sortedBelow(pack, rows, digit), rows, digit)) {
				return
			}
		}
	}
}

// sortedBelow returns a pack sorted by the digits of rows that are smaller than this one.
func sortedBelow(pack, rows []int, digit int) []int {
	low := func(card int) int { return rows[card] % (1 << digit) }
	sorted := slices.Clone(pack)
	slices.SortStableFunc(sorted, func(a, b int) int { return cmp.Compare(low(a), low(b)) })
	return sorted
}

// halving returns the riffle after which the cards of a pack have this digit of their rows.
func halving(pack, rows []int, digit int) []int {
	riffle := make([]int, 0, len(pack))
	for _, card := range pack {
		riffle = append(riffle, rows[card]>>digit%2)
	}
	return riffle
}
