package back

// move is what a turn does: a cell gets the colour of the cell whose row and
// column are exchanged, or not, and then counted from the other end, or not.
type move struct {
	exchanged  bool
	rowBack    bool
	columnBack bool
}

// turns is how many turns there are.
const turns = 8

// moves holds what each turn does.
var moves = [turns]move{
	{},
	{exchanged: true, rowBack: true},
	{rowBack: true, columnBack: true},
	{exchanged: true, columnBack: true},
	{columnBack: true},
	{rowBack: true},
	{exchanged: true},
	{exchanged: true, rowBack: true, columnBack: true},
}

// source returns the cell whose colour a cell gets.
func (m move) source(p Press, row, column int) (int, int) {
	if m.exchanged {
		row, column = column, row
	}
	if m.rowBack {
		row = p.Rows - 1 - row
	}
	if m.columnBack {
		column = p.Columns - 1 - column
	}
	return row, column
}

// then returns the move that does what this one and then another one do. After
// both, a cell has the colour of this one's source of the other one's source: so
// this one's exchange comes last, and exchanges what the other one counted back.
func (m move) then(next move) move {
	rowBack, columnBack := next.rowBack, next.columnBack
	if m.exchanged {
		rowBack, columnBack = columnBack, rowBack
	}
	return move{
		exchanged:  m.exchanged != next.exchanged,
		rowBack:    m.rowBack != rowBack,
		columnBack: m.columnBack != columnBack,
	}
}

// isTurn returns whether a number is a turn.
func isTurn(n int) bool { return n >= 0 && n < turns }

// product returns the turn that does what two turns do. There always is one, as
// moves holds all moves that there can be.
func product(first, second int) int {
	both := moves[first].then(moves[second])
	turn := 0
	for t, m := range moves {
		if m == both {
			turn = t
		}
	}
	return turn
}

// closed returns whether some turns have the turn 0 and all their products.
func closed(some []int) bool {
	var has [turns]bool
	for _, t := range some {
		has[t] = true
	}
	for _, first := range some {
		for _, second := range some {
			if !has[product(first, second)] {
				return false
			}
		}
	}
	return has[0]
}
