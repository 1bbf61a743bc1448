package table

import "slices"

// finish returns the first of the shortest lists of comparators with which a table sorts.
func finish(t Table) [][2]int {
	rows := different(outcomes(t, plainRows(t.Lanes)))
	// Some length is enough: the comparators of any table that sorts finish every other one, too.
	for length := 0; ; length++ {
		if list, found := sorting(rows, t.Lanes, length); found {
			return list
		}
	}
}

// sorting returns the first list of so many comparators that sorts these rows, and whether there is one.
func sorting(rows []row, lanes, length int) ([][2]int, bool) {
	if length == 0 {
		return nil, allSorted(rows, lanes)
	}
	for _, c := range pairs(lanes) {
		if rest, found := sorting(moved(rows, comparator(c).step), lanes, length-1); found {
			return append([][2]int{c}, rest...), true
		}
	}
	return nil, false
}

// allSorted returns whether rows are sorted.
func allSorted(rows []row, lanes int) bool {
	return !slices.ContainsFunc(rows, func(r row) bool { return !sorted(r, lanes) })
}

// pairs returns all comparators that a table can have, in ascending order.
func pairs(lanes int) [][2]int {
	var list [][2]int
	for upper := range lanes {
		for lower := upper + 1; lower < lanes; lower++ {
			list = append(list, [2]int{upper, lower})
		}
	}
	return list
}
