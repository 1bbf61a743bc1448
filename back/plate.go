package back

import (
	"slices"

	"spadille/api"
)

// plate is a press with its cells' numbers: for each of its Turns, the number of
// the cell whose colour each cell gets.
type plate struct {
	Press
	from [][]int
}

// plateOf returns the plate of a press for some backs, or the error of the press
// or of the first back that has one.
func plateOf(p Press, backs ...[]int) (plate, api.Errno) {
	if e := Check(p); e != api.OK {
		return plate{}, e
	}
	l := plate{Press: p}
	for _, b := range backs {
		if e := l.check(b); e != api.OK {
			return plate{}, e
		}
	}
	for _, t := range l.Turns {
		l.from = append(l.from, l.sources(moves[t]))
	}
	return l, api.OK
}

// cells returns how many cells a back has.
func (l plate) cells() int { return l.Rows * l.Columns }

// check returns the error of a back.
func (l plate) check(back []int) api.Errno {
	if len(back) != l.cells() {
		return api.ErrShape
	}
	for _, colour := range back {
		if colour < 0 || colour >= l.Colours {
			return api.ErrRange
		}
	}
	return api.OK
}

// sources returns for each cell the number of the one whose colour it gets by a move.
func (l plate) sources(m move) []int {
	from := make([]int, 0, l.cells())
	for row := range l.Rows {
		for column := range l.Columns {
			r, c := m.source(l.Press, row, column)
			from = append(from, r*l.Columns+c)
		}
	}
	return from
}

// turned returns a back that is turned by the turn at a place in Turns.
func (l plate) turned(back []int, place int) []int {
	out := make([]int, 0, len(back))
	for _, cell := range l.from[place] {
		out = append(out, back[cell])
	}
	return out
}

// makes returns, in ascending order, all turns that make a back another one.
func (l plate) makes(a, b []int) []int {
	var turns []int
	for i, t := range l.Turns {
		if slices.Equal(l.turned(a, i), b) {
			turns = append(turns, t)
		}
	}
	return turns
}

// kin returns, in ascending order, all different backs that are alike to one.
func (l plate) kin(back []int) [][]int {
	var all [][]int
	for i := range l.Turns {
		all = append(all, l.turned(back, i))
	}
	slices.SortFunc(all, slices.Compare)
	return slices.CompactFunc(all, slices.Equal)
}

// numbered returns the back that comes after so many others in ascending order.
func (l plate) numbered(n int) []int {
	back := make([]int, l.cells())
	for i := len(back) - 1; i >= 0; i-- {
		back[i] = n % l.Colours
		n /= l.Colours
	}
	return back
}
