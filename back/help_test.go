package back_test

import (
	"math"
	"math/rand/v2"
	"slices"
	"testing"

	"spadille/api"
	"spadille/back"
)

// This file says again what the chapter's definitions say, as plainly as possible and
// without the package, so that the other tests can compare the package with it.

func list(l ...int) []int { return l }

func press(rows, columns, colours int, turns ...int) back.Press {
	return back.Press{Rows: rows, Columns: columns, Colours: colours, Turns: turns}
}

// exampleP and exampleQ are the presses of the chapter's examples.
func exampleP() back.Press { return press(2, 2, 2, 0, 1, 2, 3) }

func exampleQ() back.Press { return press(2, 3, 2, 0, 2) }

// source returns the row and the column of the cell whose colour a cell gets: the chapter's table.
func source(p back.Press, turn, r, c int) (row, column int) {
	switch turn {
	case 0:
		return r, c
	case 1:
		return p.Rows - 1 - c, r
	case 2:
		return p.Rows - 1 - r, p.Columns - 1 - c
	case 3:
		return c, p.Columns - 1 - r
	case 4:
		return r, p.Columns - 1 - c
	case 5:
		return p.Rows - 1 - r, c
	case 6:
		return c, r
	}
	return p.Rows - 1 - c, p.Columns - 1 - r
}

// turned returns a turned back; its colours can be any numbers.
func turned(p back.Press, b []int, turn int) []int {
	out := make([]int, len(b))
	for r := range p.Rows {
		for c := range p.Columns {
			row, column := source(p, turn, r, c)
			out[r*p.Columns+c] = b[row*p.Columns+column]
		}
	}
	return out
}

// upTo returns the numbers from 0 to before another one.
func upTo(n int) []int {
	var l []int
	for i := range n {
		l = append(l, i)
	}
	return l
}

// productOf returns the turn that makes of nine different cells what two turns make of them.
func productOf(first, second int) int {
	p := press(3, 3, 1)
	both := turned(p, turned(p, upTo(9), first), second)
	for t := range 8 {
		if slices.Equal(turned(p, upTo(9), t), both) {
			return t
		}
	}
	return -1
}

// products returns the products of all turns.
var products = func() (all [8][8]int) {
	for a := range all {
		for b := range all[a] {
			all[a][b] = productOf(a, b)
		}
	}
	return all
}()

// verdict returns the error of a press.
func verdict(p back.Press) api.Errno {
	for _, x := range [][2]int{{p.Rows, 4}, {p.Columns, 4}, {p.Colours, 4}} {
		if x[0] < 1 || x[0] > x[1] {
			return api.ErrRange
		}
	}
	for i, t := range p.Turns {
		switch {
		case t < 0 || t > 7:
			return api.ErrNone
		case p.Rows != p.Columns && slices.Contains(list(1, 3, 6, 7), t):
			return api.ErrKind
		case i > 0 && t <= p.Turns[i-1]:
			return api.ErrOrder
		}
	}
	if !slices.Contains(p.Turns, 0) {
		return api.ErrOpen
	}
	for _, a := range p.Turns {
		for _, b := range p.Turns {
			if !slices.Contains(p.Turns, products[a][b]) {
				return api.ErrOpen
			}
		}
	}
	return api.OK
}

// subsets returns all lists of different turns in ascending order.
func subsets() [][]int {
	var all [][]int
	for set := range 256 {
		var l []int
		for t := range 8 {
			if set>>t&1 == 1 {
				l = append(l, t)
			}
		}
		all = append(all, l)
	}
	return all
}

// presses returns all presses that are valid.
func presses() []back.Press {
	var all []back.Press
	for rows := 1; rows <= 4; rows++ {
		for columns := 1; columns <= 4; columns++ {
			for _, turns := range subsets() {
				if verdict(press(rows, columns, 1, turns...)) != api.OK {
					continue
				}
				for colours := 1; colours <= 4; colours++ {
					all = append(all, press(rows, columns, colours, turns...))
				}
			}
		}
	}
	return all
}

// wrong returns presses that are not valid.
func wrong() []back.Press {
	var all []back.Press
	for _, n := range list(0, 5, -1, math.MinInt, math.MaxInt) {
		all = append(all, press(n, 2, 2, 0), press(2, n, 2, 0), press(2, 2, n, 0))
	}
	return append(all, press(0, 0, 0), press(2, 3, 2, 0, 8), press(2, 3, 2, 0, 1), press(2, 2, 2, 2, 0), press(2, 2, 2, 0, 1), press(2, 2, 2))
}

// backsOf returns how many backs a press has.
func backsOf(p back.Press) int {
	n := 1
	for range p.Rows * p.Columns {
		n *= p.Colours
	}
	return n
}

// allBacks returns all backs of a press in ascending order.
func allBacks(p back.Press) [][]int {
	all := [][]int{nil}
	for range p.Rows * p.Columns {
		var longer [][]int
		for _, b := range all {
			for colour := range p.Colours {
				longer = append(longer, append(slices.Clone(b), colour))
			}
		}
		all = longer
	}
	return all
}

// someBacks returns all backs of a press if it has at most a given number; otherwise
// so many of them, of which some are the same after turns.
func someBacks(p back.Press, most int, r *rand.Rand) [][]int {
	if backsOf(p) <= most {
		return allBacks(p)
	}
	var all [][]int
	for i := range most {
		b := make([]int, p.Rows*p.Columns)
		for k := range b {
			b[k] = r.IntN(p.Colours)
		}
		if i%2 == 0 {
			b = evened(p, b, p.Turns[r.IntN(len(p.Turns))])
		}
		all = append(all, b)
	}
	return all
}

// evened returns a back that stays with a turn: cells get the colours of those before them.
func evened(p back.Press, b []int, turn int) []int {
	for range b {
		for i, colour := range turned(p, b, turn) {
			b[i] = min(b[i], colour)
		}
	}
	return b
}

// eachBack calls a function for backs of all presses.
func eachBack(most int, each func(p back.Press, b []int)) {
	r := rand.New(rand.NewPCG(3, uint64(most)))
	for _, p := range presses() {
		for _, b := range someBacks(p, most, r) {
			each(p, b)
		}
	}
}

// imagesOf returns a back turned by each of Turns.
func imagesOf(p back.Press, b []int) [][]int {
	var all [][]int
	for _, t := range p.Turns {
		all = append(all, turned(p, b, t))
	}
	return all
}

// kinOf returns all different backs that are alike.
func kinOf(p back.Press, b []int) [][]int {
	var all [][]int
	for _, x := range imagesOf(p, b) {
		if !has(all, x) {
			all = append(all, x)
		}
	}
	slices.SortFunc(all, slices.Compare)
	return all
}

// has returns whether a list of lists has a list.
func has(all [][]int, b []int) bool {
	return slices.ContainsFunc(all, func(x []int) bool { return slices.Equal(x, b) })
}

// staysOf returns the turns with which a back stays.
func staysOf(p back.Press, b []int) []int {
	var l []int
	for _, t := range p.Turns {
		if slices.Equal(turned(p, b, t), b) {
			l = append(l, t)
		}
	}
	return l
}

// shows returns whether cells show all turns with which a back does not stay.
func shows(p back.Press, b, cells []int) bool {
	for _, t := range p.Turns {
		x := turned(p, b, t)
		if !slices.Equal(x, b) && !slices.ContainsFunc(cells, func(c int) bool { return x[c] != b[c] }) {
			return false
		}
	}
	return true
}

// choices returns all lists of so many different numbers below n, each one and all of them in ascending order.
func choices(n, many int) [][]int {
	all := [][]int{nil}
	for range many {
		var longer [][]int
		for _, l := range all {
			from := 0
			if len(l) > 0 {
				from = l[len(l)-1] + 1
			}
			for c := from; c < n; c++ {
				longer = append(longer, append(slices.Clone(l), c))
			}
		}
		all = longer
	}
	return all
}

// amountsOf returns how many cells of a back have each colour.
func amountsOf(p back.Press, b []int) []int {
	l := make([]int, p.Colours)
	for _, colour := range b {
		l[colour]++
	}
	return l
}

// allAmounts returns all possible amounts of colours.
func allAmounts(colours, cells int) [][]int {
	if colours == 1 {
		return [][]int{{cells}}
	}
	var all [][]int
	for n := range cells + 1 {
		for _, rest := range allAmounts(colours-1, cells-n) {
			all = append(all, append(list(n), rest...))
		}
	}
	return all
}

// mustCount returns Count of a press.
func mustCount(t *testing.T, p back.Press) int {
	t.Helper()
	n, e := back.Count(p)
	if e != api.OK {
		t.Fatalf("Count of %v: %d", p, e)
	}
	return n
}

// mustWith returns With of a press.
func mustWith(t *testing.T, p back.Press, cells []int) int {
	t.Helper()
	n, e := back.With(p, cells)
	if e != api.OK {
		t.Fatalf("With of %v, %v: %d", p, cells, e)
	}
	return n
}

// mustTurn returns a back that Turn turned.
func mustTurn(t *testing.T, p back.Press, b []int, turn int) []int {
	t.Helper()
	x, e := back.Turn(p, b, turn)
	if e != api.OK {
		t.Fatalf("Turn of %v, %v, %d: %d", p, b, turn, e)
	}
	return x
}
