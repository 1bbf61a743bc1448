package cut

import "math/bits"

// span is some rows, or some columns, that follow each other: from the first one to before another one.
type span struct {
	from int
	to   int
}

// block is where some rows and some columns meet: a card, or a part of a sheet.
type block struct {
	rows    span
	columns span
}

// squares is a set of squares of a sheet. A square has one bit; in the order of
// squares the bits rise, so that the lowest one is that of the first square.
type squares uint64

// number returns how many squares come before one of a sheet.
func number(s Sheet, row, column int) int { return row*s.Columns + column }

// whole returns all squares of a sheet.
func whole(s Sheet) squares { return 1<<number(s, s.Rows, 0) - 1 }

// size returns the numbers of rows and columns that a card covers.
func size(s Sheet, c Card) (rows, columns int) {
	if c.Turned {
		return s.Wide, s.Long
	}
	return s.Long, s.Wide
}

// fits returns whether a card covers only squares of a sheet. Its row and its
// column can be any numbers, so nothing is added to them.
func fits(s Sheet, c Card) bool {
	rows, columns := size(s, c)
	return c.Row >= 0 && c.Row <= s.Rows-rows && c.Column >= 0 && c.Column <= s.Columns-columns
}

// place returns the block of a card that fits.
func place(s Sheet, c Card) block {
	rows, columns := size(s, c)
	return block{span{c.Row, c.Row + rows}, span{c.Column, c.Column + columns}}
}

// under returns the squares that a card that fits covers.
func under(s Sheet, c Card) squares {
	p := place(s, c)
	set := squares(0)
	for row := p.rows.from; row < p.rows.to; row++ {
		for column := p.columns.from; column < p.columns.to; column++ {
			set |= 1 << number(s, row, column)
		}
	}
	return set
}

// square returns whether a card is a square, which is never Turned.
func square(s Sheet) bool { return s.Long == s.Wide }

// next returns the cards that can be laid onto the first square that is not covered, the upright one first.
func next(s Sheet, covered squares) []Card {
	first := bits.TrailingZeros64(uint64(^covered))
	c := Card{Row: first / s.Columns, Column: first % s.Columns}
	ways := []Card{c}
	if !square(s) {
		c.Turned = true
		ways = append(ways, c)
	}
	var free []Card
	for _, w := range ways {
		if fits(s, w) && covered&under(s, w) == 0 {
			free = append(free, w)
		}
	}
	return free
}
