package shuffle_test

import (
	"math"
	"math/rand/v2"
	"slices"
	"testing"

	"spadille/api"
	"spadille/shuffle"
)

// This file says again what the chapter's definitions say, as plainly as possible and
// without the package, so that the other tests can compare the package with it.

func list(l ...int) []int { return l }

// equal returns whether lists of lists are the same.
func equal(a, b [][]int) bool { return slices.EqualFunc(a, b, slices.Equal) }

// sorted returns the sorted pack.
func sorted(cards int) []int {
	l := list()
	for card := range cards {
		l = append(l, card)
	}
	return l
}

// key is a list of at most ten numbers that can be compared.
type key [11]int

func keyOf(l []int) key {
	k := key{len(l)}
	copy(k[1:], l)
	return k
}

// allLists returns all lists of so many numbers from 0 to base less 1, in ascending order.
func allLists(length, base int) [][]int {
	all := [][]int{{}}
	for range length {
		var longer [][]int
		for _, l := range all {
			for n := range base {
				longer = append(longer, append(slices.Clone(l), n))
			}
		}
		all = longer
	}
	return all
}

// allPacks returns all packs of so many cards, in ascending order.
func allPacks(cards int) [][]int {
	all := [][]int{{}}
	for range cards {
		var longer [][]int
		for _, l := range all {
			for card := range cards {
				if !slices.Contains(l, card) {
					longer = append(longer, append(slices.Clone(l), card))
				}
			}
		}
		all = longer
	}
	return all
}

// verdict returns the error of a pack.
func verdict(pack []int) api.Errno {
	if len(pack) == 0 {
		return api.ErrEmpty
	}
	if len(pack) > 10 {
		return api.ErrMany
	}
	for place, card := range pack {
		if card < 0 || card > len(pack)-1 {
			return api.ErrNone
		}
		if slices.Contains(pack[:place], card) {
			return api.ErrTwice
		}
	}
	return api.OK
}

// riffled cuts a pack into heaps and merges them.
func riffled(pack, riffle []int, heaps int) []int {
	cut := make([][]int, heaps)
	rest := pack
	for heap := range heaps {
		n := 0
		for _, number := range riffle {
			if number == heap {
				n++
			}
		}
		cut[heap] = rest[:n]
		rest = rest[n:]
	}
	l := list()
	for _, heap := range riffle {
		l = append(l, cut[heap][0])
		cut[heap] = cut[heap][1:]
	}
	return l
}

// rows returns the rising rows of a pack.
func rows(pack []int) [][]int {
	all := [][]int{{}}
	for card := range pack {
		last := len(all) - 1
		all[last] = append(all[last], card)
		ends := card == len(pack)-1 || slices.Index(pack, card+1) < slices.Index(pack, card)
		if ends && card < len(pack)-1 {
			all = append(all, nil)
		}
	}
	return all
}

// leading returns for each pack the riffles with so many heaps that make the sorted pack it, in ascending order.
func leading(cards, heaps int) map[key][][]int {
	ways := map[key][][]int{}
	for _, riffle := range allLists(cards, heaps) {
		k := keyOf(riffled(sorted(cards), riffle, heaps))
		ways[k] = append(ways[k], riffle)
	}
	return ways
}

// power returns a number multiplied with itself so often.
func power(n, often int) int {
	p := 1
	for range often {
		p *= n
	}
	return p
}

// chosen returns in how many ways some of n things can be chosen.
func chosen(n, some int) int {
	if some < 0 || some > n {
		return 0
	}
	if some == 0 || some == n {
		return 1
	}
	return chosen(n-1, some-1) + chosen(n-1, some)
}

// perfectly shuffles a pack perfectly.
func perfectly(pack []int, kind int) []int {
	half := len(pack) / 2
	l := list()
	for i := range half {
		if kind == 0 {
			l = append(l, pack[i], pack[half+i])
		} else {
			l = append(l, pack[half+i], pack[i])
		}
	}
	return l
}

// rounds returns after how many perfect shuffles a pack is as it was.
func rounds(cards, kind int) int {
	pack := perfectly(sorted(cards), kind)
	n := 1
	for !slices.Equal(pack, sorted(cards)) {
		pack = perfectly(pack, kind)
		n++
	}
	return n
}

// brought returns the place to which perfect shuffles bring the card at a place.
func brought(cards, from int, kinds []int) int {
	pack := sorted(cards)
	for _, kind := range kinds {
		pack = perfectly(pack, kind)
	}
	return slices.Index(pack, from)
}

// bringing returns the first of the shortest lists of kinds that bring a card to a place.
func bringing(cards, from, to int) []int {
	for length := 0; ; length++ {
		for _, kinds := range allLists(length, 2) {
			if brought(cards, from, kinds) == to {
				return kinds
			}
		}
	}
}

// randomPack returns a pack of so many cards.
func randomPack(r *rand.Rand, cards int) []int { return r.Perm(cards) }

// randomRiffle returns a riffle of so many cards.
func randomRiffle(r *rand.Rand, cards, heaps int) []int {
	l := list()
	for range cards {
		l = append(l, r.IntN(heaps))
	}
	return l
}

// odd returns numbers that are mostly outside of all bounds.
func odd() []int {
	return list(math.MinInt, math.MinInt+1, -16, -2, -1, 0, 1, 16, 17, 256, 1<<32, 1<<60, math.MaxInt-1, math.MaxInt)
}

// wrong returns packs that are not valid.
func wrong() [][]int {
	return [][]int{
		nil, {}, sorted(11), make([]int, 11), make([]int, 100000), {1}, {-1}, {0, 2}, {2, 0}, {0, 0}, {1, 1}, {0, 1, 1, 3, 3},
		{0, 1, 2, 3, 5, 5}, {0, 0, 9}, {9, 0, 0}, {-1, -1}, {math.MinInt, 0}, {0, math.MaxInt}, {10, 1, 2, 3, 4, 5, 6, 7, 8, 9},
		{0, 1, 2, 3, 4, 5, 6, 7, 8, 8}, {9, 8, 7, 6, 5, 4, 3, 2, 1, 1}, {0, 1, 2, 3, 4, 5, 6, 7, 8, 10, 9, 11}, {0, 1, 0, 7},
	}
}

func mustRiffle(t *testing.T, pack, riffle []int, heaps int) []int {
	t.Helper()
	l, e := shuffle.Riffle(pack, riffle, heaps)
	if e != api.OK {
		t.Fatalf("Riffle of %v, %v, %d: %d", pack, riffle, heaps, e)
	}
	return l
}

func mustWays(t *testing.T, pack []int, heaps int) int {
	t.Helper()
	n, e := shuffle.Ways(pack, heaps)
	if e != api.OK {
		t.Fatalf("Ways of %v, %d: %d", pack, heaps, e)
	}
	return n
}

func mustRising(t *testing.T, pack []int) [][]int {
	t.Helper()
	l, e := shuffle.Rising(pack)
	if e != api.OK {
		t.Fatalf("Rising of %v: %d", pack, e)
	}
	return l
}

func mustFewest(t *testing.T, pack []int) int {
	t.Helper()
	n, e := shuffle.Fewest(pack)
	if e != api.OK {
		t.Fatalf("Fewest of %v: %d", pack, e)
	}
	return n
}

func mustJoined(t *testing.T, one []int, heaps int, two []int, more int) []int {
	t.Helper()
	l, e := shuffle.Joined(one, heaps, two, more)
	if e != api.OK {
		t.Fatalf("Joined of %v, %d, %v, %d: %d", one, heaps, two, more, e)
	}
	return l
}

func mustPacks(t *testing.T, cards, rows int) int {
	t.Helper()
	n, e := shuffle.Packs(cards, rows)
	if e != api.OK {
		t.Fatalf("Packs of %d, %d: %d", cards, rows, e)
	}
	return n
}

func mustPerfect(t *testing.T, pack []int, kind int) []int {
	t.Helper()
	l, e := shuffle.Perfect(pack, kind)
	if e != api.OK {
		t.Fatalf("Perfect of %v, %d: %d", pack, kind, e)
	}
	return l
}

func mustRound(t *testing.T, cards, kind int) int {
	t.Helper()
	n, e := shuffle.Round(cards, kind)
	if e != api.OK {
		t.Fatalf("Round of %d, %d: %d", cards, kind, e)
	}
	return n
}

func mustBring(t *testing.T, cards, from, to int) []int {
	t.Helper()
	l, e := shuffle.Bring(cards, from, to)
	if e != api.OK {
		t.Fatalf("Bring of %d, %d, %d: %d", cards, from, to, e)
	}
	return l
}
