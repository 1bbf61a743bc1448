package back_test

import (
	"math"
	"math/rand/v2"
	"slices"
	"testing"

	"spadille/api"
	"spadille/back"
)

// P3.1: Product of all pairs of numbers, compared with what the turns do to cells.
func TestP3_1AllProducts(t *testing.T) {
	for a := -2; a < 10; a++ {
		for b := -2; b < 10; b++ {
			want, e := 0, api.ErrNone
			if a >= 0 && a < 8 && b >= 0 && b < 8 {
				want, e = products[a][b], api.OK
			}
			if n, f := back.Product(a, b); n != want || f != e {
				t.Errorf("Product of %d and %d: %d %d, want %d %d", a, b, n, f, want, e)
			}
		}
	}
}

// P3.1: Check of all ascending lists of turns, and of all short lists, compared with the definitions.
func TestP3_1AllTurns(t *testing.T) {
	lists := subsets()
	short := [][]int{nil}
	for range 4 {
		var longer [][]int
		for _, l := range short {
			for turn := -1; turn <= 8; turn++ {
				longer = append(longer, append(slices.Clone(l), turn))
			}
		}
		lists = append(lists, longer...)
		short = longer
	}
	seen := map[api.Errno]int{}
	for _, l := range lists {
		for _, p := range []back.Press{press(3, 3, 2, l...), press(1, 1, 1, l...), press(2, 4, 3, l...), press(3, 2, 4, l...)} {
			want := verdict(p)
			seen[want]++
			if e := back.Check(p); e != want {
				t.Fatalf("Check of %v: %d, want %d", p, e, want)
			}
		}
	}
	for _, e := range []api.Errno{api.OK, api.ErrNone, api.ErrKind, api.ErrOrder, api.ErrOpen} {
		if seen[e] == 0 {
			t.Errorf("no press has the error %d", e)
		}
	}
}

// P3.1: Check of all sizes and colours, also far outside, compared with the definitions.
func TestP3_1AllSizes(t *testing.T) {
	numbers := append(upTo(7), -1, -4, math.MinInt, math.MaxInt)
	for _, rows := range numbers {
		for _, columns := range numbers {
			for _, colours := range numbers {
				for _, turns := range [][]int{{0}, {0, 1, 2, 3}, {2}, {1}, {-1}, {8}, nil} {
					p := press(rows, columns, colours, turns...)
					if e := back.Check(p); e != verdict(p) {
						t.Fatalf("Check of %v: %d, want %d", p, e, verdict(p))
					}
				}
			}
		}
	}
	if n := len(presses()); n != 400 {
		t.Errorf("%d presses are valid", n)
	}
}

// P3.1: functions return the error of each of the backs of a press in which one thing is wrong.
func TestP3_1AllBacks(t *testing.T) {
	for _, p := range presses() {
		n := p.Rows * p.Columns
		for i := range n {
			for _, x := range list(-1, p.Colours, 4, math.MaxInt, math.MinInt) {
				b := make([]int, n)
				b[i] = x
				errors, more := answers(p, b)
				if x >= 0 && x < p.Colours {
					continue
				}
				if more || slices.ContainsFunc(errors, func(e api.Errno) bool { return e != api.ErrRange }) {
					t.Fatalf("%v, %v: errors are %v, or more than errors", p, b, errors)
				}
			}
		}
		for _, length := range list(0, n-1, n+1, 2*n) {
			b := make([]int, length)
			errors, more := answers(p, b)
			if more || slices.ContainsFunc(errors, func(e api.Errno) bool { return e != api.ErrShape }) {
				t.Fatalf("%v, %v: errors are %v, or more than errors", p, b, errors)
			}
		}
	}
}

// P3.2: Turn of backs of all presses by all numbers, compared with the chapter's table.
func TestP3_2AllTurns(t *testing.T) {
	eachBack(40, func(p back.Press, b []int) {
		for turn := -1; turn < 9; turn++ {
			var want []int
			lost := api.ErrNone
			if slices.Contains(p.Turns, turn) {
				want, lost = turned(p, b, turn), api.OK
			}
			if x, e := back.Turn(p, b, turn); !slices.Equal(x, want) || e != lost {
				t.Fatalf("Turn of %v, %v, %d: %v %d, want %v %d", p, b, turn, x, e, want, lost)
			}
		}
	})
}

// alikeOf returns the first turn that makes a back another one, or the error.
func alikeOf(p back.Press, a, b []int) (int, api.Errno) {
	for _, turn := range p.Turns {
		if slices.Equal(turned(p, a, turn), b) {
			return turn, api.OK
		}
	}
	return 0, api.ErrLost
}

// P3.2: Alike of a back and its turned ones, also when one cell is changed, compared with the definitions.
func TestP3_2AllAlike(t *testing.T) {
	r := rand.New(rand.NewPCG(3, 2))
	lost := 0
	eachBack(30, func(p back.Press, a []int) {
		check := func(b []int) {
			want, e := alikeOf(p, a, b)
			if e == api.ErrLost {
				lost++
			}
			if n, f := back.Alike(p, a, b); n != want || f != e {
				t.Fatalf("Alike of %v, %v and %v: %d %d, want %d %d", p, a, b, n, f, want, e)
			}
		}
		for turn := range 8 {
			if p.Rows != p.Columns && slices.Contains(list(1, 3, 6, 7), turn) {
				continue
			}
			b := turned(p, a, turn)
			check(b)
			b[r.IntN(len(b))] = r.IntN(p.Colours)
			check(b)
		}
	})
	if lost < 1000 {
		t.Errorf("only %d pairs are not alike", lost)
	}
}

// P3.3: First, Kin and Stays of backs of all presses, compared with the definitions.
func TestP3_3AllKin(t *testing.T) {
	eachBack(100, func(p back.Press, b []int) {
		kin := kinOf(p, b)
		if l, e := back.Kin(p, b); !equal(l, kin) || e != api.OK {
			t.Fatalf("Kin of %v, %v: %v %d, want %v", p, b, l, e, kin)
		}
		if x, e := back.First(p, b); !slices.Equal(x, kin[0]) || e != api.OK {
			t.Fatalf("First of %v, %v: %v %d, want %v", p, b, x, e, kin[0])
		}
		if l, e := back.Stays(p, b); !slices.Equal(l, staysOf(p, b)) || e != api.OK {
			t.Fatalf("Stays of %v, %v: %v %d, want %v", p, b, l, e, staysOf(p, b))
		}
	})
}

// P3.4, P3.5, P3.6: Staying, Count, With and All of all presses with up to 4096 backs, compared with all of their backs.
func TestP3_4AllCounts(t *testing.T) {
	for _, p := range presses() {
		if backsOf(p) > 4096 {
			continue
		}
		stay, with := map[int]int{}, map[[4]int]int{}
		var firsts [][]int
		for _, b := range allBacks(p) {
			for _, turn := range staysOf(p, b) {
				stay[turn]++
			}
			if slices.Equal(kinOf(p, b)[0], b) {
				firsts = append(firsts, b)
				with[[4]int(append(amountsOf(p, b), 0, 0, 0))]++
			}
		}
		for turn := range 9 {
			want := api.OK
			if !slices.Contains(p.Turns, turn) {
				want = api.ErrNone
			}
			if n, e := back.Staying(p, turn); n != stay[turn] || e != want {
				t.Fatalf("Staying of %v, %d: %d %d, want %d %d", p, turn, n, e, stay[turn], want)
			}
		}
		if n := mustCount(t, p); n != len(firsts) {
			t.Fatalf("Count of %v: %d, but %d backs are different", p, n, len(firsts))
		}
		if all, e := back.All(p); !equal(all, firsts) || e != api.OK {
			t.Fatalf("All of %v: %v %d, want %v", p, all, e, firsts)
		}
		for _, cells := range allAmounts(p.Colours, p.Rows*p.Columns) {
			if n := mustWith(t, p, cells); n != with[[4]int(append(slices.Clone(cells), 0, 0, 0))] {
				t.Fatalf("With of %v, %v: %d", p, cells, n)
			}
		}
	}
}

// groupsOf returns the cells that have the same colour in each back that stays with a turn.
func groupsOf(p back.Press, turn int) [][]int {
	group := upTo(p.Rows * p.Columns)
	for range group {
		for i, g := range turned(p, group, turn) {
			group[i] = min(group[i], g)
		}
	}
	var all [][]int
	for g := range group {
		var cells []int
		for i := range group {
			if group[i] == g {
				cells = append(cells, i)
			}
		}
		if len(cells) > 0 {
			all = append(all, cells)
		}
	}
	return all
}

// givenTo returns in how many ways groups can have colours so that each colour has its amount.
func givenTo(groups [][]int, left [4]int, seen map[[5]int]int) int {
	if len(groups) == 0 {
		return 1
	}
	key := [5]int{len(groups), left[0], left[1], left[2], left[3]}
	if n, ok := seen[key]; ok {
		return n
	}
	sum := 0
	for colour := range left {
		if rest := left; rest[colour] >= len(groups[0]) {
			rest[colour] -= len(groups[0])
			sum += givenTo(groups[1:], rest, seen)
		}
	}
	seen[key] = sum
	return sum
}

// P3.4, P3.5, P3.6: Staying, Count and With of all larger presses, compared with the groups of their cells, and All without a result.
func TestP3_4LargeCounts(t *testing.T) {
	r := rand.New(rand.NewPCG(3, 4))
	for _, p := range presses() {
		if backsOf(p) <= 4096 {
			continue
		}
		if all, e := back.All(p); len(all) != 0 || e != api.ErrFull {
			t.Fatalf("All of %v: %d backs %d", p, len(all), e)
		}
		sum := 0
		for _, turn := range p.Turns {
			want := 1
			for range groupsOf(p, turn) {
				want *= p.Colours
			}
			sum += want
			if n, e := back.Staying(p, turn); n != want || e != api.OK {
				t.Fatalf("Staying of %v, %d: %d %d, want %d", p, turn, n, e, want)
			}
		}
		if n := mustCount(t, p); n*len(p.Turns) != sum {
			t.Fatalf("Count of %v: %d times %d is not %d", p, n, len(p.Turns), sum)
		}
		amounts := allAmounts(p.Colours, p.Rows*p.Columns)
		for range 20 {
			cells := amounts[r.IntN(len(amounts))]
			all := 0
			for _, turn := range p.Turns {
				all += givenTo(groupsOf(p, turn), [4]int(append(slices.Clone(cells), 0, 0, 0)), map[[5]int]int{})
			}
			if n := mustWith(t, p, cells); n*len(p.Turns) != all {
				t.Fatalf("With of %v, %v: %d times %d is not %d", p, cells, n, len(p.Turns), all)
			}
		}
	}
}

// P3.5: With of all short lists of amounts, compared with the promise.
func TestP3_5AllLists(t *testing.T) {
	lists := [][]int{nil}
	for from := 0; len(lists[from]) < 4; from++ {
		for n := -1; n <= 5; n++ {
			lists = append(lists, append(slices.Clone(lists[from]), n))
		}
	}
	for _, p := range []back.Press{press(2, 2, 1, 0, 2), press(1, 3, 2, 0, 4), press(2, 2, 3, 0, 1, 2, 3), press(2, 1, 4, 0, 2), press(4, 1, 4, 0)} {
		n := p.Rows * p.Columns
		for _, l := range lists {
			sum, outside := 0, false
			for _, x := range l {
				sum += x
				outside = outside || x < 0 || x > n
			}
			want := api.OK
			switch {
			case len(l) != p.Colours:
				want = api.ErrShape
			case outside:
				want = api.ErrRange
			case sum != n:
				want = api.ErrSum
			}
			if k, e := back.With(p, l); e != want || (k > 0) != (want == api.OK) {
				t.Fatalf("With of %v, %v: %d %d, want %d", p, l, k, e, want)
			}
		}
	}
}

// cellsOf returns the first of the shortest lists of cells that show all turns.
func cellsOf(p back.Press, b []int, ordered [][]int) []int {
	for _, l := range ordered {
		if shows(p, b, l) {
			return l
		}
	}
	return nil
}

// P3.7: Cells of backs of all presses, compared with all lists of cells, the shortest ones first.
func TestP3_7AllCells(t *testing.T) {
	ordered := map[int][][]int{}
	for n := 1; n <= 16; n++ {
		for many := range n + 1 {
			ordered[n] = append(ordered[n], choices(n, many)...)
		}
	}
	lengths := map[int]int{}
	eachBack(150, func(p back.Press, b []int) {
		want := cellsOf(p, b, ordered[len(b)])
		lengths[len(want)]++
		if l, e := back.Cells(p, b); !slices.Equal(l, want) || e != api.OK {
			t.Fatalf("Cells of %v, %v: %v %d, want %v", p, b, l, e, want)
		}
		if e := back.Shows(p, b, want); e != api.OK {
			t.Fatalf("Shows of %v, %v, %v: %d", p, b, want, e)
		}
	})
	if lengths[0] == 0 || lengths[1] == 0 || lengths[2] == 0 || lengths[3] == 0 {
		t.Errorf("the backs are too much alike: %v", lengths)
	}
}

// P3.7: Shows of all lists of cells of small backs, and of all short lists of numbers, compared with the definitions.
func TestP3_7AllShows(t *testing.T) {
	lists := [][]int{nil}
	for from := 0; len(lists[from]) < 3; from++ {
		for n := -1; n <= 6; n++ {
			lists = append(lists, append(slices.Clone(lists[from]), n))
		}
	}
	lists = append(lists, choices(4, 4)...)
	lists = append(lists, choices(6, 4)...)
	small := []back.Press{exampleP(), exampleQ(), press(2, 2, 3, 0, 1, 2, 3, 4, 5, 6, 7), press(1, 2, 2, 0, 4), press(2, 3, 2, 0, 2, 4, 5), press(1, 1, 2, 0, 6)}
	for _, p := range small {
		for _, b := range allBacks(p) {
			for _, l := range lists {
				want := api.OK
				for i, c := range l {
					if c < 0 || c >= len(b) {
						want = api.ErrNone
						break
					}
					if i > 0 && c <= l[i-1] {
						want = api.ErrOrder
						break
					}
				}
				if want == api.OK && !shows(p, b, l) {
					want = api.ErrProof
				}
				if e := back.Shows(p, b, l); e != want {
					t.Fatalf("Shows of %v, %v, %v: %d, want %d", p, b, l, e, want)
				}
			}
		}
	}
}
