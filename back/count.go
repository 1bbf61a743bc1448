package back

// loops are how many loops of one, of two and of four cells a turn has: along a
// loop it gives each cell the colour of the next one. There are no other loops,
// as a turn that is done four times does nothing.
type loops struct {
	ones  int
	twos  int
	fours int
}

// loopsOf returns the loops of a turn, by the cells whose colours the cells get.
func loopsOf(from []int) loops {
	var l loops
	seen := make([]bool, len(from))
	for cell := range from {
		length := 0
		for at := cell; !seen[at]; at = from[at] {
			seen[at] = true
			length++
		}
		switch length {
		case 1:
			l.ones++
		case 2:
			l.twos++
		case 4:
			l.fours++
		}
	}
	return l
}

// staying returns how many backs stay with a turn that has these loops: those
// that have the same colour all along each loop.
func (l loops) staying(colours int) int { return power(colours, l.ones+l.twos+l.fours) }

// with returns how many of these backs have given amounts of each colour, which
// make up all cells of the loops.
func (l loops) with(amounts []int) int {
	if len(amounts) == 0 {
		return 1
	}
	sum := 0
	for fours := range l.fours + 1 {
		for twos := range l.twos + 1 {
			ones := amounts[0] - 2*twos - 4*fours
			if ones < 0 || ones > l.ones {
				continue
			}
			rest := loops{l.ones - ones, l.twos - twos, l.fours - fours}
			sum += choose(l.ones, ones) * choose(l.twos, twos) * choose(l.fours, fours) * rest.with(amounts[1:])
		}
	}
	return sum
}

// average returns how many backs stay with a turn on average. By the lemma of
// Cauchy and Frobenius it is the number of backs of which no two are alike.
func (l plate) average(staying func(loops) int) int {
	sum := 0
	for _, from := range l.from {
		sum += staying(loopsOf(from))
	}
	return sum / len(l.Turns)
}

// power returns a number multiplied by itself so often.
func power(n, times int) int {
	out := 1
	for range times {
		out *= n
	}
	return out
}

// choose returns in how many ways some of so many things can be chosen.
func choose(things, some int) int {
	out := 1
	for i := range some {
		out = out * (things - i) / (i + 1)
	}
	return out
}
