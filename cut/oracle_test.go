package cut_test

import (
	"math"
	"math/rand/v2"
	"slices"
	"testing"

	"spadille/api"
	"spadille/cut"
)

// P2.2: Can, Fill and Count of all sheets, compared with all fillings.
func TestP2_2AllFillings(t *testing.T) {
	for _, s := range sheets() {
		fillings := known()[s]
		if is, e := cut.Can(s); is != (len(fillings) > 0) || e != api.OK {
			t.Fatalf("Can of %v: %v %d, but there are %d fillings", s, is, e, len(fillings))
		}
		if n := mustCount(t, s); n != len(fillings) {
			t.Fatalf("Count of %v: %d, but there are %d fillings", s, n, len(fillings))
		}
		var want []cut.Card
		lost := api.ErrLost
		if len(fillings) > 0 {
			want, lost = fillings[0], api.OK
		}
		if l, e := cut.Fill(s); !slices.Equal(l, want) || e != lost {
			t.Fatalf("Fill of %v: %v %d, want %v", s, l, e, want)
		}
	}
}

// P2.3: Verify of all short lists of cards of small sheets, compared with the definitions.
func TestP2_3AllLists(t *testing.T) {
	small := []cut.Sheet{sheet(2, 2, 2, 1), sheet(2, 2, 1, 1), sheet(1, 3, 1, 2), sheet(2, 3, 2, 1), sheet(2, 3, 1, 2), sheet(2, 3, 2, 2), sheet(3, 1, 1, 1)}
	for _, s := range small {
		var all []cut.Card
		for row := -1; row <= s.Rows; row++ {
			for column := -1; column <= s.Columns; column++ {
				all = append(all, cut.Card{Row: row, Column: column}, cut.Card{Row: row, Column: column, Turned: true})
			}
		}
		seen := map[api.Errno]int{}
		check := func(l ...cut.Card) {
			want := verdict(s, l)
			seen[want]++
			if e := cut.Verify(s, l); e != want {
				t.Fatalf("Verify of %v, %v: %d, want %d", s, l, e, want)
			}
		}
		check()
		for _, a := range all {
			check(a)
			for _, b := range all {
				check(a, b)
				if verdict(s, []cut.Card{a, b}) != api.ErrOpen {
					continue
				}
				for _, c := range all {
					check(a, b, c)
				}
			}
		}
		if seen[api.ErrRange] == 0 || seen[api.ErrOrder] == 0 || seen[api.ErrOpen] == 0 {
			t.Fatalf("the lists are too much alike: %v", seen)
		}
	}
}

// P2.3: fillings of all sheets are accepted; when one of their cards is changed, the definitions tell what is wrong.
func TestP2_3Changed(t *testing.T) {
	r := rand.New(rand.NewPCG(2, 3))
	odd := list(-1, 6, math.MaxInt, math.MaxInt-5, math.MinInt, math.MinInt+5)
	seen := map[api.Errno]int{}
	for _, s := range sheets() {
		for _, l := range known()[s] {
			if e := cut.Verify(s, l); e != api.OK {
				t.Fatalf("Verify of %v, %v: %d", s, l, e)
			}
			l = slices.Clone(l)
			i := r.IntN(len(l))
			switch c := &l[i]; r.IntN(7) {
			case 0:
				c.Turned = !c.Turned
			case 1:
				c.Row = r.IntN(s.Rows)
			case 2:
				c.Column = r.IntN(s.Columns)
			case 3:
				*c = cut.Card{Row: odd[r.IntN(len(odd))], Column: r.IntN(s.Columns), Turned: r.IntN(2) == 0}
			case 4:
				*c = cut.Card{Row: r.IntN(s.Rows), Column: odd[r.IntN(len(odd))], Turned: r.IntN(2) == 0}
			case 5:
				l = slices.Delete(l, i, i+1)
			case 6:
				l = slices.Insert(l, r.IntN(len(l)+1), *c)
			}
			want := verdict(s, l)
			seen[want]++
			if e := cut.Verify(s, l); e != want {
				t.Fatalf("Verify of %v, %v: %d, want %d", s, l, e, want)
			}
		}
	}
	for _, e := range []api.Errno{api.OK, api.ErrRange, api.ErrOrder, api.ErrClash, api.ErrOpen, api.ErrShape} {
		if seen[e] == 0 {
			t.Errorf("no list has the error %d", e)
		}
	}
}

// P2.4: Upright of all sheets, compared with all fillings.
func TestP2_4AllUpright(t *testing.T) {
	for _, s := range sheets() {
		least, most, e := cut.Upright(s)
		var numbers []int
		for _, l := range known()[s] {
			numbers = append(numbers, upright(l))
		}
		if len(numbers) == 0 {
			if least != 0 || most != 0 || e != api.ErrLost {
				t.Fatalf("Upright of %v: %d %d %d", s, least, most, e)
			}
			continue
		}
		if least != slices.Min(numbers) || most != slices.Max(numbers) || e != api.OK {
			t.Fatalf("Upright of %v: %d %d %d", s, least, most, e)
		}
	}
}

// P2.5: Cuts, Straight and Rounds of all fillings of all sheets, compared with the definitions.
func TestP2_5AllCuts(t *testing.T) {
	crooked := 0
	for s, fillings := range known() {
		for _, l := range fillings {
			g := gridOf(s, l)
			rows, columns := cutsOf(g, all(s))
			rounds := roundsOf(g, all(s), map[part]int{})
			r, c, e := cut.Cuts(s, l)
			if !slices.Equal(r, rows) || !slices.Equal(c, columns) || e != api.OK {
				t.Fatalf("Cuts of %v, %v: %v %v %d, want %v %v", s, l, r, c, e, rows, columns)
			}
			if is, e := cut.Straight(s, l); is != (rounds >= 0) || e != api.OK {
				t.Fatalf("Straight of %v, %v: %v %d", s, l, is, e)
			}
			want := api.OK
			if rounds < 0 {
				crooked++
				rounds, want = 0, api.ErrLost
			}
			if n, e := cut.Rounds(s, l); n != rounds || e != want {
				t.Fatalf("Rounds of %v, %v: %d %d, want %d %d", s, l, n, e, rounds, want)
			}
		}
	}
	if crooked < 24 {
		t.Fatalf("only %d fillings are not straight", crooked)
	}
}

// P2.6: Solid of all sheets, compared with all fillings.
func TestP2_6AllSolid(t *testing.T) {
	for _, s := range sheets() {
		var want []cut.Card
		lost := api.ErrLost
		for _, l := range known()[s] {
			if rows, columns := cutsOf(gridOf(s, l), all(s)); len(rows)+len(columns) == 0 {
				want, lost = l, api.OK
				break
			}
		}
		if l, e := cut.Solid(s); !slices.Equal(l, want) || e != lost {
			t.Fatalf("Solid of %v: %v %d, want %v %d", s, l, e, want, lost)
		}
	}
}

// coloursOf returns how many squares have each colour.
func coloursOf(s cut.Sheet, k int) []int {
	l := make([]int, k)
	for colour := range k {
		for row := range s.Rows {
			for column := range s.Columns {
				if (row+column)%k == colour {
					l[colour]++
				}
			}
		}
	}
	return l
}

// P2.7: Colours and Against of all sheets, compared with the definitions.
func TestP2_7AllColours(t *testing.T) {
	seen := map[int]int{}
	for _, s := range sheets() {
		for k := 1; k <= 6; k++ {
			if l, e := cut.Colours(s, k); !slices.Equal(l, coloursOf(s, k)) || e != api.OK {
				t.Fatalf("Colours of %v by %d: %v %d", s, k, l, e)
			}
		}
		kind, k, want := 0, 0, api.OK
		switch {
		case len(known()[s]) > 0:
			want = api.ErrClash
		case !sums(s, s.Rows):
			kind, k = cut.Side, s.Rows
		case !sums(s, s.Columns):
			kind, k = cut.Side, s.Columns
		case !level(coloursOf(s, s.Long)):
			kind, k = cut.Colour, s.Long
		default:
			kind, k = cut.Colour, s.Wide
		}
		seen[kind]++
		if a, b, e := cut.Against(s); a != kind || b != k || e != want {
			t.Fatalf("Against of %v: %d %d %d, want %d %d %d", s, a, b, e, kind, k, want)
		}
	}
	if seen[0] == 0 || seen[cut.Side] == 0 || seen[cut.Colour] == 0 {
		t.Fatalf("the sheets are too much alike: %v", seen)
	}
}
