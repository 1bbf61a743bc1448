package table

import (
	"slices"

	"spadille/api"
)

// row has a number for each lane; behind the last lane it is 0, so that rows can be compared as arrays.
type row [MaxLanes]int

// rowOf returns a list as a row.
func rowOf(list []int) row {
	var r row
	copy(r[:], list)
	return r
}

// listed returns a row of a table as a list.
func listed(t Table, r row) []int { return slices.Clone(r[:t.Lanes]) }

// sorted returns whether the numbers of these lanes are sorted.
func sorted(r row, lanes int) bool { return slices.IsSorted(r[:lanes]) }

// different returns the different ones of some rows in ascending order.
func different(rows []row) []row {
	list := slices.Clone(rows)
	slices.SortFunc(list, func(a, b row) int { return slices.Compare(a[:], b[:]) })
	return slices.Compact(list)
}

// plainRows returns all plain rows in ascending order.
func plainRows(lanes int) []row {
	var rows []row
	for n := range 1 << lanes {
		var r row
		for lane := range lanes {
			r[lane] = n >> (lanes - 1 - lane) & 1
		}
		rows = append(rows, r)
	}
	return rows
}

// twoParts returns all plain rows of which both the upper part and the lower one are sorted.
func twoParts(lanes, upper int) []row {
	return slices.DeleteFunc(plainRows(lanes), func(r row) bool {
		return !slices.IsSorted(r[:upper]) || !slices.IsSorted(r[upper:lanes])
	})
}

// checkRow returns the error of a table, or else that of a row for it.
func checkRow(t Table, list []int) api.Errno {
	if e := Check(t); e != api.OK {
		return e
	}
	if len(list) != t.Lanes {
		return api.ErrShape
	}
	return api.OK
}

func isLane(t Table, n int) bool { return n >= 0 && n < t.Lanes }
