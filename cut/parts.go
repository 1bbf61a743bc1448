package cut

// places returns the blocks of cards that fit.
func places(s Sheet, l []Card) []block {
	blocks := make([]block, 0, len(l))
	for _, c := range l {
		blocks = append(blocks, place(s, c))
	}
	return blocks
}

// area returns the block of a whole sheet.
func area(s Sheet) block { return block{span{0, s.Rows}, span{0, s.Columns}} }

// holds returns whether a block lies in another one.
func (b block) holds(in block) bool {
	return b.rows.from <= in.rows.from && in.rows.to <= b.rows.to &&
		b.columns.from <= in.columns.from && in.columns.to <= b.columns.to
}

// gaps returns, in ascending order, all places within a span where none of some other spans is divided.
func gaps(all span, spans []span) []int {
	var l []int
places:
	for at := all.from + 1; at < all.to; at++ {
		for _, p := range spans {
			if p.from < at && at < p.to {
				continue places
			}
		}
		l = append(l, at)
	}
	return l
}

// cuts returns all cuts of a part that is filled with cards, between rows and between columns.
func cuts(part block, cards []block) (rows, columns []int) {
	var down, across []span
	for _, c := range cards {
		down, across = append(down, c.rows), append(across, c.columns)
	}
	return gaps(part.rows, down), gaps(part.columns, across)
}

// solid returns whether a filling has no cut.
func solid(s Sheet, l []Card) bool {
	rows, columns := cuts(area(s), places(s, l))
	return len(rows) == 0 && len(columns) == 0
}

// halves returns, for each cut of a part that is filled with cards, the two parts that it is divided into.
func halves(part block, cards []block) [][2]block {
	rows, columns := cuts(part, cards)
	var l [][2]block
	for _, at := range rows {
		upper, lower := part, part
		upper.rows.to, lower.rows.from = at, at
		l = append(l, [2]block{upper, lower})
	}
	for _, at := range columns {
		left, right := part, part
		left.columns.to, right.columns.from = at, at
		l = append(l, [2]block{left, right})
	}
	return l
}

// division tells whether a part is straight, and its rounds if it is.
type division struct {
	straight bool
	rounds   int
}

// divided returns the division of a filling.
func divided(s Sheet, l []Card) division {
	all := places(s, l)
	m := newMemo(func(m *memo[block, division], part block) division {
		var cards []block
		for _, c := range all {
			if part.holds(c) {
				cards = append(cards, c)
			}
		}
		if len(cards) == 1 {
			return division{straight: true}
		}
		return best(m, halves(part, cards))
	})
	return m.of(area(s))
}

// best returns the division of a part with the fewest rounds, of all the ways to divide it in two.
func best(m *memo[block, division], ways [][2]block) division {
	var d division
	for _, w := range ways {
		one := m.of(w[0])
		other := m.of(w[1])
		rounds := max(one.rounds, other.rounds) + 1
		if one.straight && other.straight && (!d.straight || rounds < d.rounds) {
			d = division{true, rounds}
		}
	}
	return d
}
