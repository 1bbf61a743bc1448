package cut_test

import (
	"math"
	"slices"
	"sync"
	"testing"

	"spadille/api"
	"spadille/cut"
)

// This file says again what the chapter's definitions say, as plainly as possible and
// without the package, so that the other tests can compare the package with it.

func list(l ...int) []int { return l }

func sheet(rows, columns, long, wide int) cut.Sheet {
	return cut.Sheet{Rows: rows, Columns: columns, Long: long, Wide: wide}
}

// cards returns cards that are written as in the chapter: 01t is turned, in row 0 and column 1.
func cards(l ...string) []cut.Card {
	var all []cut.Card
	for _, c := range l {
		all = append(all, cut.Card{Row: int(c[0] - '0'), Column: int(c[1] - '0'), Turned: c[2] == 't'})
	}
	return all
}

// sheets returns all sheets.
func sheets() []cut.Sheet {
	var all []cut.Sheet
	for rows := 1; rows <= 6; rows++ {
		for columns := 1; columns <= 6; columns++ {
			for long := 1; long <= 6; long++ {
				for wide := 1; wide <= 6; wide++ {
					all = append(all, sheet(rows, columns, long, wide))
				}
			}
		}
	}
	return all
}

// wrong returns sheets of which one number is wrong.
func wrong() []cut.Sheet {
	var all []cut.Sheet
	for _, n := range list(0, 7, -1, math.MinInt, math.MaxInt) {
		all = append(all, sheet(n, 2, 2, 1), sheet(2, n, 2, 1), sheet(2, 2, n, 1), sheet(2, 2, 2, n))
	}
	return append(all, sheet(0, 0, 0, 0))
}

// covers returns whether a card covers a square.
func covers(s cut.Sheet, c cut.Card, row, column int) bool {
	rows, columns := s.Long, s.Wide
	if c.Turned {
		rows, columns = s.Wide, s.Long
	}
	return row >= c.Row && row < c.Row+rows && column >= c.Column && column < c.Column+columns
}

// grid is the number of the card on each square of a sheet, or -1.
type grid [6][6]int

// gridOf lays cards that fit onto a sheet.
func gridOf(s cut.Sheet, l []cut.Card) grid {
	var g grid
	for r := range g {
		for c := range g[r] {
			g[r][c] = -1
			for i, x := range l {
				if covers(s, x, r, c) {
					g[r][c] = i
				}
			}
		}
	}
	return g
}

// room returns whether a card lies within a sheet and on free squares only.
func room(s cut.Sheet, g grid, c cut.Card) bool {
	n := 0
	for row := range s.Rows {
		for column := range s.Columns {
			if covers(s, c, row, column) && g[row][column] == -1 {
				n++
			}
		}
	}
	return n == s.Long*s.Wide
}

// known returns all fillings of all sheets that have any.
var known = sync.OnceValue(func() map[cut.Sheet][][]cut.Card {
	m := map[cut.Sheet][][]cut.Card{}
	for _, s := range sheets() {
		if l := fillingsOf(s); len(l) > 0 {
			m[s] = l
		}
	}
	return m
})

// fillingsOf returns all fillings of a sheet in their order, by trying all cards on each first free square.
func fillingsOf(s cut.Sheet) [][]cut.Card {
	var all [][]cut.Card
	var lay func(l []cut.Card)
	lay = func(l []cut.Card) {
		g := gridOf(s, l)
		for row := range s.Rows {
			for column := range s.Columns {
				if g[row][column] != -1 {
					continue
				}
				for _, turned := range []bool{false, true} {
					c := cut.Card{Row: row, Column: column, Turned: turned}
					if room(s, g, c) && !(turned && s.Long == s.Wide) {
						lay(append(slices.Clone(l), c))
					}
				}
				return
			}
		}
		all = append(all, l)
	}
	lay(nil)
	return all
}

// part is some rows and columns of a grid.
type part struct{ top, bottom, left, right int }

func all(s cut.Sheet) part { return part{0, s.Rows, 0, s.Columns} }

// onlyOne returns whether a part is one card.
func onlyOne(g grid, p part) bool {
	for r := p.top; r < p.bottom; r++ {
		for c := p.left; c < p.right; c++ {
			if g[r][c] != g[p.top][p.left] {
				return false
			}
		}
	}
	return true
}

// cutsOf returns the cuts of a part: the places where all squares on both sides belong to different cards.
func cutsOf(g grid, p part) (rows, columns []int) {
	for r := p.top + 1; r < p.bottom; r++ {
		free := true
		for c := p.left; c < p.right; c++ {
			free = free && g[r-1][c] != g[r][c]
		}
		if free {
			rows = append(rows, r)
		}
	}
	for c := p.left + 1; c < p.right; c++ {
		free := true
		for r := p.top; r < p.bottom; r++ {
			free = free && g[r][c-1] != g[r][c]
		}
		if free {
			columns = append(columns, c)
		}
	}
	return rows, columns
}

// roundsOf returns the rounds of a part, or -1 if it is not straight. What is known of parts is kept in seen.
func roundsOf(g grid, p part, seen map[part]int) int {
	if onlyOne(g, p) {
		return 0
	}
	if n, ok := seen[p]; ok {
		return n
	}
	best := -1
	divide := func(a, b part) {
		m, n := roundsOf(g, a, seen), roundsOf(g, b, seen)
		if m >= 0 && n >= 0 && (best < 0 || max(m, n)+1 < best) {
			best = max(m, n) + 1
		}
	}
	rows, columns := cutsOf(g, p)
	for _, r := range rows {
		divide(part{p.top, r, p.left, p.right}, part{r, p.bottom, p.left, p.right})
	}
	for _, c := range columns {
		divide(part{p.top, p.bottom, p.left, c}, part{p.top, p.bottom, c, p.right})
	}
	seen[p] = best
	return best
}

// verdict returns the error of a list of cards with small numbers.
func verdict(s cut.Sheet, l []cut.Card) api.Errno {
	for i, c := range l {
		g := gridOf(s, l[:i])
		inside := 0
		for row := range s.Rows {
			for column := range s.Columns {
				if covers(s, c, row, column) {
					inside++
				}
			}
		}
		behind := i == 0 || slices.Compare(list(l[i-1].Row, l[i-1].Column), list(c.Row, c.Column)) < 0
		switch {
		case c.Turned && s.Long == s.Wide:
			return api.ErrShape
		case inside != s.Long*s.Wide:
			return api.ErrRange
		case !behind:
			return api.ErrOrder
		case !room(s, g, c):
			return api.ErrClash
		}
	}
	if len(l)*s.Long*s.Wide != s.Rows*s.Columns {
		return api.ErrOpen
	}
	return api.OK
}

// sums returns whether a side is a sum of Longs and Wides.
func sums(s cut.Sheet, side int) bool {
	for m := range 7 {
		for n := range 7 {
			if m*s.Long+n*s.Wide == side {
				return true
			}
		}
	}
	return false
}

// divides returns whether a number divides a side of a sheet.
func divides(s cut.Sheet, k int) bool { return s.Rows%k == 0 || s.Columns%k == 0 }

// level returns whether all numbers of a list are the same.
func level(l []int) bool { return slices.Min(l) == slices.Max(l) }

// upright returns how many cards are not turned.
func upright(l []cut.Card) int {
	n := 0
	for _, c := range l {
		if !c.Turned {
			n++
		}
	}
	return n
}

// mustCount returns the number of fillings of a sheet.
func mustCount(t *testing.T, s cut.Sheet) int {
	t.Helper()
	n, e := cut.Count(s)
	if e != api.OK {
		t.Fatalf("Count of %v: %d", s, e)
	}
	return n
}
