package shuffle_test

import (
	"math/rand/v2"
	"slices"
	"testing"

	"spadille/api"
	"spadille/shuffle"
)

// P5.1: Check of all short lists, compared with the definitions.
func TestP5_1AllLists(t *testing.T) {
	seen := map[api.Errno]int{}
	for length := range 7 {
		for _, l := range allLists(length, length+2) {
			for i := range l {
				l[i]--
			}
			want := verdict(l)
			seen[want]++
			if e := shuffle.Check(l); e != want {
				t.Fatalf("Check of %v: %d, want %d", l, e, want)
			}
		}
	}
	for _, e := range []api.Errno{api.OK, api.ErrEmpty, api.ErrNone, api.ErrTwice} {
		if seen[e] == 0 {
			t.Errorf("no list has the error %d", e)
		}
	}
}

// P5.1: Riffle of all small packs by all riffles, compared with the definitions.
func TestP5_1AllRiffles(t *testing.T) {
	for cards := 1; cards <= 4; cards++ {
		for heaps := 1; heaps <= 5; heaps++ {
			for _, pack := range allPacks(cards) {
				for _, riffle := range allLists(cards, heaps) {
					want := riffled(pack, riffle, heaps)
					if l := mustRiffle(t, pack, riffle, heaps); !slices.Equal(l, want) {
						t.Fatalf("Riffle of %v, %v, %d: %v, want %v", pack, riffle, heaps, l, want)
					}
				}
			}
		}
	}
}

// P5.1: Riffle of larger packs, compared with the definitions, and with one number that is wrong.
func TestP5_1LargeRiffles(t *testing.T) {
	r := rand.New(rand.NewPCG(5, 1))
	for range 5000 {
		cards, heaps := 1+r.IntN(10), 1+r.IntN(16)
		pack, riffle := randomPack(r, cards), randomRiffle(r, cards, heaps)
		want := riffled(pack, riffle, heaps)
		if l := mustRiffle(t, pack, riffle, heaps); !slices.Equal(l, want) {
			t.Fatalf("Riffle of %v, %v, %d: %v, want %v", pack, riffle, heaps, l, want)
		}
		riffle[r.IntN(cards)] = list(-1, heaps)[r.IntN(2)]
		if l, e := shuffle.Riffle(pack, riffle, heaps); l != nil || e != api.ErrNone {
			t.Fatalf("Riffle of %v, %v, %d: %v %d", pack, riffle, heaps, l, e)
		}
	}
}

// P5.2: Rising of all small packs, and of larger ones, compared with the definitions.
func TestP5_2AllPacks(t *testing.T) {
	for cards := 1; cards <= 7; cards++ {
		for _, pack := range allPacks(cards) {
			if l := mustRising(t, pack); !equal(l, rows(pack)) {
				t.Fatalf("Rising of %v: %v, want %v", pack, l, rows(pack))
			}
		}
	}
	r := rand.New(rand.NewPCG(5, 2))
	for range 5000 {
		pack := randomPack(r, 8+r.IntN(3))
		if l := mustRising(t, pack); !equal(l, rows(pack)) {
			t.Fatalf("Rising of %v: %v, want %v", pack, l, rows(pack))
		}
	}
}

// compareWays compares Ways and First of all packs with all riffles that lead to them.
func compareWays(t *testing.T, cards, heaps int) {
	t.Helper()
	ways := leading(cards, heaps)
	for _, pack := range allPacks(cards) {
		all := ways[keyOf(pack)]
		if n := mustWays(t, pack, heaps); n != len(all) {
			t.Fatalf("Ways of %v, %d: %d, want %d", pack, heaps, n, len(all))
		}
		first, e := shuffle.First(pack, heaps)
		switch {
		case len(all) == 0 && (e != api.ErrLost || first != nil):
			t.Fatalf("First of %v, %d: %v %d, want none", pack, heaps, first, e)
		case len(all) > 0 && (e != api.OK || !slices.Equal(first, all[0])):
			t.Fatalf("First of %v, %d: %v %d, want %v", pack, heaps, first, e, all[0])
		}
	}
}

// P5.3: Ways and First of all small packs, compared with all riffles.
func TestP5_3AllPacks(t *testing.T) {
	for _, x := range [][2]int{{1, 16}, {2, 16}, {3, 16}, {4, 10}, {5, 6}, {6, 4}, {7, 3}, {8, 2}} {
		for heaps := 1; heaps <= x[1]; heaps++ {
			compareWays(t, x[0], heaps)
		}
	}
}

// P5.3: Ways and First of packs of 9 and 10 cards with two and three heaps, compared with all riffles.
func TestP5_3LargePacks(t *testing.T) {
	r := rand.New(rand.NewPCG(5, 3))
	for _, cards := range list(9, 10) {
		for _, heaps := range list(2, 3) {
			ways := leading(cards, heaps)
			for range 2000 {
				pack := riffled(sorted(cards), randomRiffle(r, cards, heaps), heaps)
				all := ways[keyOf(pack)]
				first, e := shuffle.First(pack, heaps)
				if n := mustWays(t, pack, heaps); n != len(all) || e != api.OK || !slices.Equal(first, all[0]) {
					t.Fatalf("%v, %d: Ways %d, First %v %d, want %d and %v", pack, heaps, n, first, e, len(all), all[0])
				}
			}
		}
	}
}

// steps returns by how few riffles with two heaps each pack can be made from the sorted pack.
func steps(cards int) map[key]int {
	found := map[key]int{keyOf(sorted(cards)): 0}
	riffles := allLists(cards, 2)
	for last := [][]int{sorted(cards)}; len(last) > 0; {
		var next [][]int
		for _, pack := range last {
			n := found[keyOf(pack)]
			for _, riffle := range riffles {
				made := riffled(pack, riffle, 2)
				if _, known := found[keyOf(made)]; !known {
					found[keyOf(made)] = n + 1
					next = append(next, made)
				}
			}
		}
		last = next
	}
	return found
}

// compareRiffles checks that what Riffles returns makes the sorted pack this pack, one after the other.
func compareRiffles(t *testing.T, pack []int, fewest int) {
	t.Helper()
	riffles, e := shuffle.Riffles(pack)
	made := sorted(len(pack))
	for _, riffle := range riffles {
		if len(riffle) != len(pack) || slices.ContainsFunc(riffle, func(n int) bool { return n != 0 && n != 1 }) {
			t.Fatalf("Riffles of %v: %v", pack, riffles)
		}
		made = riffled(made, riffle, 2)
	}
	if n := mustFewest(t, pack); n != fewest || e != api.OK || len(riffles) != n || !slices.Equal(made, pack) {
		t.Fatalf("Fewest of %v: %d, want %d; Riffles: %v %d, which make %v", pack, n, fewest, riffles, e, made)
	}
}

// P5.4: Fewest and Riffles of all small packs, compared with the packs that so many riffles make.
func TestP5_4AllPacks(t *testing.T) {
	for cards := 1; cards <= 7; cards++ {
		found := steps(cards)
		for _, pack := range allPacks(cards) {
			compareRiffles(t, pack, found[keyOf(pack)])
		}
	}
}

// undone returns the pack that a riffle makes this pack.
func undone(pack, riffle []int) []int {
	from := riffled(sorted(len(pack)), riffle, 2)
	l := make([]int, len(pack))
	for place, card := range pack {
		l[from[place]] = card
	}
	return l
}

// madeBy returns whether so many riffles make the sorted pack this pack; once holds what one riffle makes.
func madeBy(pack []int, n int, riffles [][]int, once map[key][][]int) bool {
	if n == 1 {
		return len(once[keyOf(pack)]) > 0
	}
	return slices.ContainsFunc(riffles, func(riffle []int) bool { return madeBy(undone(pack, riffle), n-1, riffles, once) })
}

// P5.4: Fewest and Riffles of larger packs; one riffle less than so many does not make them.
func TestP5_4LargePacks(t *testing.T) {
	r := rand.New(rand.NewPCG(5, 4))
	riffles, once := allLists(10, 2), leading(10, 2)
	for range 100 {
		pack := sorted(10)
		for range 1 + r.IntN(4) {
			pack = riffled(pack, randomRiffle(r, 10, 2), 2)
		}
		n := mustFewest(t, pack)
		if n > 1 && n < 4 && madeBy(pack, n-1, riffles, once) {
			t.Fatalf("Fewest of %v is %d, but less is enough", pack, n)
		}
		compareRiffles(t, pack, n)
	}
	for range 2000 {
		pack := randomPack(r, 8+r.IntN(3))
		compareRiffles(t, pack, mustFewest(t, pack))
	}
}

// P5.5: Joined of all small riffles, compared with the definitions.
func TestP5_5AllRiffles(t *testing.T) {
	for cards := 1; cards <= 3; cards++ {
		for heaps := 1; heaps <= 4; heaps++ {
			for more := 1; more <= 4; more++ {
				for _, one := range allLists(cards, heaps) {
					for _, two := range allLists(cards, more) {
						compareJoined(t, one, heaps, two, more)
					}
				}
			}
		}
	}
}

// compareJoined compares Joined with the words of P5.5.
func compareJoined(t *testing.T, one []int, heaps int, two []int, more int) {
	t.Helper()
	var want []int
	for place, from := range riffled(sorted(len(two)), two, more) {
		want = append(want, one[from]*more+two[place])
	}
	if l := mustJoined(t, one, heaps, two, more); !slices.Equal(l, want) {
		t.Fatalf("Joined of %v, %d, %v, %d: %v, want %v", one, heaps, two, more, l, want)
	}
}

// P5.5: Joined of larger riffles, compared with the definitions, and with one number that is wrong.
func TestP5_5LargeRiffles(t *testing.T) {
	r := rand.New(rand.NewPCG(5, 5))
	for range 5000 {
		cards, heaps := 1+r.IntN(10), 1+r.IntN(16)
		more := 1 + r.IntN(16/heaps)
		one, two := randomRiffle(r, cards, heaps), randomRiffle(r, cards, more)
		compareJoined(t, one, heaps, two, more)
		wrong := slices.Clone(one)
		wrong[r.IntN(cards)] = heaps
		if l, e := shuffle.Joined(wrong, heaps, two, more); l != nil || e != api.ErrNone {
			t.Fatalf("Joined of %v, %d, %v, %d: %v %d", wrong, heaps, two, more, l, e)
		}
		two[r.IntN(cards)] = more
		if l, e := shuffle.Joined(one, heaps, two, more); l != nil || e != api.ErrNone {
			t.Fatalf("Joined of %v, %d, %v, %d: %v %d", one, heaps, two, more, l, e)
		}
	}
}

// P5.5: Joined of all numbers of heaps, also far outside.
func TestP5_5AllHeaps(t *testing.T) {
	for _, heaps := range append(odd(), sorted(20)...) {
		for _, more := range append(odd(), sorted(20)...) {
			want := api.ErrRange
			if heaps >= 1 && heaps <= 16 && more >= 1 && more <= 16 && heaps*more <= 16 {
				want = api.OK
			}
			if _, e := shuffle.Joined(list(0, 0), heaps, list(0, 0), more); e != want {
				t.Fatalf("Joined with %d and %d heaps: %d, want %d", heaps, more, e, want)
			}
		}
	}
}

// P5.6: Packs of all numbers, compared with the rising rows of all packs of up to 8 cards.
func TestP5_6AllPacks(t *testing.T) {
	for cards := 1; cards <= 8; cards++ {
		counts := make([]int, cards+1)
		for _, pack := range allPacks(cards) {
			counts[len(rows(pack))]++
		}
		for many, want := range counts {
			if n := mustPacks(t, cards, many); n != want {
				t.Errorf("Packs of %d, %d: %d, want %d", cards, many, n, want)
			}
		}
	}
	for _, cards := range append(odd(), sorted(14)...) {
		for _, many := range append(odd(), sorted(14)...) {
			right := cards >= 1 && cards <= 10 && many >= 0 && many <= cards
			if n, e := shuffle.Packs(cards, many); right != (e == api.OK) || !right && (n != 0 || e != api.ErrRange) {
				t.Errorf("Packs of %d, %d: %d %d", cards, many, n, e)
			}
		}
	}
}

// P5.7: Perfect of all small packs, and of larger ones, compared with the definitions.
func TestP5_7AllPacks(t *testing.T) {
	r := rand.New(rand.NewPCG(5, 7))
	packs := slices.Concat(allPacks(2), allPacks(4), allPacks(6))
	for range 1000 {
		packs = append(packs, randomPack(r, 8), randomPack(r, 10))
	}
	for _, pack := range packs {
		for kind := range 2 {
			if l := mustPerfect(t, pack, kind); !slices.Equal(l, perfectly(pack, kind)) {
				t.Fatalf("Perfect of %v, %d: %v, want %v", pack, kind, l, perfectly(pack, kind))
			}
		}
	}
}

// P5.7: Round of all numbers, compared with the definitions.
func TestP5_7AllRounds(t *testing.T) {
	for _, cards := range append(odd(), sorted(14)...) {
		for _, kind := range append(odd(), sorted(3)...) {
			want, e := 0, api.OK
			switch {
			case cards < 2 || cards > 10:
				e = api.ErrRange
			case cards%2 != 0:
				e = api.ErrShape
			case kind != 0 && kind != 1:
				e = api.ErrKind
			default:
				want = rounds(cards, kind)
			}
			if n, f := shuffle.Round(cards, kind); n != want || f != e {
				t.Errorf("Round of %d, %d: %d %d, want %d %d", cards, kind, n, f, want, e)
			}
		}
	}
}

// P5.7: Bring of all numbers, compared with all lists of kinds.
func TestP5_7AllBrings(t *testing.T) {
	for _, cards := range append(odd(), sorted(14)...) {
		for _, from := range append(odd(), sorted(12)...) {
			for _, to := range append(odd(), sorted(12)...) {
				var want []int
				e := api.OK
				switch {
				case cards < 2 || cards > 10:
					e = api.ErrRange
				case cards%2 != 0:
					e = api.ErrShape
				case from < 0 || from >= cards || to < 0 || to >= cards:
					e = api.ErrNone
				default:
					want = bringing(cards, from, to)
				}
				if l, f := shuffle.Bring(cards, from, to); !slices.Equal(l, want) || f != e {
					t.Fatalf("Bring of %d, %d, %d: %v %d, want %v %d", cards, from, to, l, f, want, e)
				}
			}
		}
	}
}
