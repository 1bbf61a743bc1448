package table

import "slices"

// comparator is a pair of lanes, the upper one first.
type comparator [2]int

// step returns what the comparator makes of a row.
func (c comparator) step(r row) row {
	upper, lower := c[0], c[1]
	if r[upper] > r[lower] {
		r[upper], r[lower] = r[lower], r[upper]
	}
	return r
}

// steps returns the steps of all comparators in their order.
func steps(t Table) []func(row) row {
	var list []func(row) row
	for _, c := range t.Comparators {
		list = append(list, comparator(c).step)
	}
	return list
}

// run returns the outcome of a list with a number for each lane.
func run(t Table, list []int) row {
	r := rowOf(list)
	for _, s := range steps(t) {
		r = s(r)
	}
	return r
}

// moved returns what a step makes of some rows.
func moved(rows []row, step func(row) row) []row {
	list := make([]row, 0, len(rows))
	for _, r := range rows {
		list = append(list, step(r))
	}
	return list
}

// outcomes returns the outcomes of some rows, in the order of the rows.
func outcomes(t Table, rows []row) []row {
	for _, s := range steps(t) {
		rows = moved(rows, s)
	}
	return rows
}

// unsorted returns the first one of some rows whose outcome is not sorted, and whether there is one.
func unsorted(t Table, rows []row) (row, bool) {
	for i, outcome := range outcomes(t, rows) {
		if !sorted(outcome, t.Lanes) {
			return rows[i], true
		}
	}
	return row{}, false
}

// sorts returns whether a table sorts; by P7.8, plain rows are enough to tell.
func sorts(t Table) bool {
	_, found := unsorted(t, plainRows(t.Lanes))
	return !found
}

// without returns a table without one of its comparators.
func without(t Table, index int) Table {
	t.Comparators = slices.Concat(t.Comparators[:index], t.Comparators[index+1:])
	return t
}

// place returns how many numbers of a row can be smaller than that of a lane in the outcome.
// A plain row has 0 where the smallest numbers of other rows lie. If there are k of them, the
// lane gets 0 just if fewer than k numbers are smaller than its number, whichever they are.
func place(t Table, lane int) (least, most int) {
	least = t.Lanes - 1
	for _, outcome := range outcomes(t, plainRows(t.Lanes)) {
		zeros := t.Lanes
		for _, n := range outcome {
			zeros -= n
		}
		if outcome[lane] == 0 {
			least = min(least, zeros-1)
		} else {
			most = max(most, zeros)
		}
	}
	return least, most
}
