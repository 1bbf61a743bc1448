package press

import (
	"slices"

	"spadille/api"
)

// traits is what a position has of some measures, in their order; behind them it is 0.
type traits [MaxMeasures]int

// traitsOf returns what a position has of these measures.
func traitsOf(values, measures []int) traits {
	var t traits
	for i, measure := range measures {
		t[i] = values[measure]
	}
	return t
}

// grouped returns a list in groups of elements with equal marks, each in the order of the list,
// and in the order of their first elements.
func grouped[T any, M comparable](list []T, mark func(T) M) [][]T {
	var groups [][]T
	index := map[M]int{}
	for _, element := range list {
		m := mark(element)
		at, known := index[m]
		if !known {
			at = len(groups)
			index[m] = at
			groups = append(groups, nil)
		}
		groups[at] = append(groups[at], element)
	}
	return groups
}

// groups returns all groups of these measures.
func groups(table [][]int, measures []int) [][]int {
	return grouped(positions(table), func(position int) traits { return traitsOf(table[position], measures) })
}

// split returns some positions in groups of those with the same value of a measure.
func split(table [][]int, list []int, measure int) [][]int {
	return grouped(list, func(position int) int { return table[position][measure] })
}

// apart returns the first two positions that these measures do not tell apart, if there are some.
func apart(table [][]int, measures []int) (a, b int, e api.Errno) {
	for _, group := range groups(table, measures) {
		if len(group) > 1 {
			return group[0], group[1], api.ErrClash
		}
	}
	return 0, 0, api.OK
}

// checkApart returns the error of a table, or else ErrClash if its measures do not tell all positions apart.
func checkApart(table [][]int) api.Errno {
	if e := Check(table); e != api.OK {
		return e
	}
	_, _, e := apart(table, upTo(len(table[0])))
	return e
}

// checkMeasures returns the error of a table, or else that of some of its measures.
func checkMeasures(table [][]int, measures []int) api.Errno {
	if e := Check(table); e != api.OK {
		return e
	}
	for i, measure := range measures {
		if !isMeasure(table, measure) {
			return api.ErrNone
		}
		if i > 0 && measure <= measures[i-1] {
			return api.ErrOrder
		}
	}
	return api.OK
}

// others returns all measures but one.
func others(table [][]int, measure int) []int {
	return slices.Delete(upTo(len(table[0])), measure, measure+1)
}

// positions returns all positions of a table.
func positions(table [][]int) []int { return upTo(len(table)) }

// upTo returns the numbers from 0 to n less 1.
func upTo(n int) []int {
	l := make([]int, 0, n)
	for i := range n {
		l = append(l, i)
	}
	return l
}

func isPosition(table [][]int, n int) bool { return n >= 0 && n < len(table) }

func isMeasure(table [][]int, n int) bool { return n >= 0 && n < len(table[0]) }

func isValue(n int) bool { return n >= 0 && n <= MaxValue }

// allValues returns whether all numbers of a list are values.
func allValues(list []int) bool {
	return !slices.ContainsFunc(list, func(n int) bool { return !isValue(n) })
}
