package shuffle_test

import (
	"math/rand/v2"
	"slices"
	"testing"

	"spadille/api"
	"spadille/shuffle"
)

// P5.8: Ways is a number of choices, and depends on nothing but how many rising rows there are.
func TestP5_8Choices(t *testing.T) {
	r := rand.New(rand.NewPCG(5, 8))
	for cards := 1; cards <= 10; cards++ {
		for range 200 {
			pack := randomPack(r, cards)
			many := len(mustRising(t, pack))
			for heaps := 1; heaps <= 16; heaps++ {
				want := 0
				if many <= heaps {
					want = chosen(heaps+cards-many, cards)
				}
				if n := mustWays(t, pack, heaps); n != want {
					t.Fatalf("Ways of %v, %d: %d, want %d", pack, heaps, n, want)
				}
			}
		}
	}
}

// P5.9: the sum of Ways of all packs is the number of all riffles.
func TestP5_9Sum(t *testing.T) {
	for cards := 1; cards <= 7; cards++ {
		packs := allPacks(cards)
		for heaps := 1; heaps <= 16; heaps++ {
			sum := 0
			for _, pack := range packs {
				sum += mustWays(t, pack, heaps)
			}
			if sum != power(heaps, cards) {
				t.Errorf("%d cards, %d heaps: the sum of Ways is %d", cards, heaps, sum)
			}
		}
	}
}

// withRows returns a pack of so many cards with so many rising rows.
func withRows(cards, many int) []int {
	l := list()
	for card := many - 1; card > 0; card-- {
		l = append(l, card)
	}
	l = append(l, 0)
	for card := many; card < cards; card++ {
		l = append(l, card)
	}
	return l
}

// P5.9: the same for the larger packs, which Packs counts.
func TestP5_9LargeSum(t *testing.T) {
	for cards := 1; cards <= 10; cards++ {
		for heaps := 1; heaps <= 16; heaps++ {
			sum := 0
			for many := 1; many <= cards; many++ {
				pack := withRows(cards, many)
				if n := len(mustRising(t, pack)); n != many {
					t.Fatalf("%v has %d rising rows, want %d", pack, n, many)
				}
				sum += mustPacks(t, cards, many) * mustWays(t, pack, heaps)
			}
			if sum != power(heaps, cards) {
				t.Errorf("%d cards, %d heaps: the sum of Ways is %d", cards, heaps, sum)
			}
		}
	}
}

// P5.10: 2 to the power of Fewest is the first such power that is at least the number of rising rows.
func TestP5_10Power(t *testing.T) {
	r := rand.New(rand.NewPCG(5, 10))
	for cards := 1; cards <= 10; cards++ {
		packs := [][]int{}
		for many := 1; many <= cards; many++ {
			packs = append(packs, withRows(cards, many))
		}
		for range 500 {
			packs = append(packs, randomPack(r, cards))
		}
		for _, pack := range packs {
			want := 0
			for power(2, want) < len(mustRising(t, pack)) {
				want++
			}
			if n := mustFewest(t, pack); n != want {
				t.Fatalf("Fewest of %v: %d, want %d", pack, n, want)
			}
		}
	}
}

// P5.11: Joined does with each pack what both riffles do, one after the other.
func TestP5_11Joined(t *testing.T) {
	r := rand.New(rand.NewPCG(5, 11))
	for range 5000 {
		cards, heaps := 1+r.IntN(10), 1+r.IntN(16)
		more := 1 + r.IntN(16/heaps)
		pack, one, two := randomPack(r, cards), randomRiffle(r, cards, heaps), randomRiffle(r, cards, more)
		joined := mustJoined(t, one, heaps, two, more)
		twice := mustRiffle(t, mustRiffle(t, pack, one, heaps), two, more)
		if l := mustRiffle(t, pack, joined, heaps*more); !slices.Equal(l, twice) {
			t.Fatalf("%v by %v, %d and %v, %d: %v, and joined %v: %v", pack, one, heaps, two, more, twice, joined, l)
		}
	}
}

// P5.11: each riffle with a times b heaps is what Joined returns for just one riffle with a and one with b heaps.
func TestP5_11JustOne(t *testing.T) {
	for _, x := range [][3]int{{1, 4, 4}, {2, 4, 4}, {3, 2, 8}, {3, 8, 2}, {4, 2, 2}, {4, 2, 3}, {4, 3, 2}, {4, 1, 5}, {4, 5, 1}, {6, 2, 2}, {5, 2, 3}} {
		cards, a, b := x[0], x[1], x[2]
		seen := map[key]int{}
		for _, one := range allLists(cards, a) {
			for _, two := range allLists(cards, b) {
				seen[keyOf(mustJoined(t, one, a, two, b))]++
			}
		}
		for _, riffle := range allLists(cards, a*b) {
			if n := seen[keyOf(riffle)]; n != 1 {
				t.Fatalf("%v with %d times %d heaps is joined in %d ways", riffle, a, b, n)
			}
		}
	}
}

// P5.11: all that Riffles returns, joined, is one riffle that leads to the pack.
func TestP5_11AllJoined(t *testing.T) {
	r := rand.New(rand.NewPCG(5, 111))
	for range 2000 {
		cards := 1 + r.IntN(10)
		pack := randomPack(r, cards)
		riffles, e := shuffle.Riffles(pack)
		if e != api.OK {
			t.Fatalf("Riffles of %v: %d", pack, e)
		}
		joined, heaps := make([]int, cards), 1
		for _, riffle := range riffles {
			joined = mustJoined(t, joined, heaps, riffle, 2)
			heaps *= 2
		}
		if l := mustRiffle(t, sorted(cards), joined, heaps); !slices.Equal(l, pack) {
			t.Fatalf("Riffles of %v are %v, which make %v", pack, riffles, l)
		}
	}
}

// P5.12: as many packs have r rising rows as have n + 1 - r, and a pack that is turned upside down changes from one to the other.
func TestP5_12AsMany(t *testing.T) {
	r := rand.New(rand.NewPCG(5, 12))
	for cards := 1; cards <= 10; cards++ {
		for many := 1; many <= cards; many++ {
			if a, b := mustPacks(t, cards, many), mustPacks(t, cards, cards+1-many); a != b || a == 0 {
				t.Errorf("%d packs of %d cards have %d rising rows, but %d have %d", a, cards, many, b, cards+1-many)
			}
		}
		for range 200 {
			pack := randomPack(r, cards)
			turned := slices.Clone(pack)
			slices.Reverse(turned)
			if a, b := len(mustRising(t, pack)), len(mustRising(t, turned)); a+b != cards+1 {
				t.Fatalf("%v has %d rising rows, and upside down %d", pack, a, b)
			}
		}
	}
}

// P5.13: what perfect shuffles leave, their rounds, and their rising rows.
func TestP5_13Perfect(t *testing.T) {
	for cards := 2; cards <= 10; cards += 2 {
		out := mustPerfect(t, sorted(cards), shuffle.Out)
		if out[0] != 0 || out[cards-1] != cards-1 {
			t.Errorf("an out-shuffle of %d cards makes %v", cards, out)
		}
		if cards >= 4 && mustRound(t, cards, shuffle.Out) != mustRound(t, cards-2, shuffle.In) {
			t.Errorf("the round of out-shuffles of %d cards is not that of in-shuffles of %d", cards, cards-2)
		}
		for kind := range 2 {
			pack := mustPerfect(t, sorted(cards), kind)
			if n := len(mustRising(t, pack)); cards > 2 && n != 2 {
				t.Errorf("%v has %d rising rows", pack, n)
			}
			if riffle := perfectRiffle(cards, kind); !slices.Equal(mustRiffle(t, sorted(cards), riffle, 2), pack) {
				t.Errorf("a perfect shuffle makes %v, but the riffle %v does not", pack, riffle)
			}
		}
	}
}

// perfectRiffle returns a perfect shuffle as a riffle.
func perfectRiffle(cards, kind int) []int {
	if kind == shuffle.Out {
		return slices.Repeat(list(0, 1), cards/2)
	}
	return slices.Repeat(list(1, 0), cards/2)
}

// P5.14: the digits of a place bring the top card there, and Bring, from each place to each place, does with no more shuffles.
func TestP5_14Elmsley(t *testing.T) {
	for cards := 2; cards <= 10; cards += 2 {
		for to := range cards {
			var digits []int
			for n := to; n > 0; n /= 2 {
				digits = slices.Insert(digits, 0, n%2)
			}
			pack := sorted(cards)
			for _, kind := range digits {
				pack = mustPerfect(t, pack, kind)
			}
			if pack[to] != 0 {
				t.Errorf("%d cards: the top card is not brought to %d by %v", cards, to, digits)
			}
			if l := mustBring(t, cards, 0, to); len(l) > len(digits) {
				t.Errorf("Bring of %d, 0, %d: %v, but %v is enough", cards, to, l, digits)
			}
			for from := range cards {
				if l := mustBring(t, cards, from, to); brought(cards, from, l) != to {
					t.Errorf("Bring of %d, %d, %d: %v", cards, from, to, l)
				}
			}
		}
	}
}
