package stamp_test

import (
	"cmp"
	"math/rand/v2"
	"slices"
	"testing"

	"spadille/api"
	"spadille/stamp"
)

// This file says again what the chapter's definitions say, as plainly as possible and
// without the package, so that the other tests can compare the package with it.

func list(l ...int) []int { return l }

// books returns books: four numbers are a way.
func books(rooms int, l ...int) stamp.Books {
	b := stamp.Books{Rooms: rooms}
	for w := range slices.Chunk(l, 4) {
		b.Ways = append(b.Ways, stamp.Way{From: w[0], To: w[1], Least: w[2], Most: w[3]})
	}
	return b
}

// exampleB and exampleC are the books of the chapter's examples.
func exampleB() stamp.Books { return books(3, 0, 1, 5, 9, 1, 2, 0, 7, 2, 0, 4, 6) }
func exampleC() stamp.Books {
	return books(3, 0, 1, 5, 9, 1, 2, 0, 3, 2, 0, 0, 9, 1, 0, 0, 1)
}

func clone(b stamp.Books) stamp.Books {
	return stamp.Books{Rooms: b.Rooms, Ways: slices.Clone(b.Ways)}
}

func equal(a, b stamp.Books) bool { return a.Rooms == b.Rooms && slices.Equal(a.Ways, b.Ways) }

// isFlow tells whether a list is a flow of books.
func isFlow(b stamp.Books, flow []int) bool {
	if len(flow) != len(b.Ways) {
		return false
	}
	to, from := make([]int, b.Rooms), make([]int, b.Rooms)
	for i, w := range b.Ways {
		if flow[i] < w.Least || flow[i] > w.Most {
			return false
		}
		from[w.From] += flow[i]
		to[w.To] += flow[i]
	}
	return slices.Equal(to, from)
}

// flowsOf returns all flows of small books in their order, by trying all numbers.
func flowsOf(b stamp.Books) [][]int {
	var all [][]int
	flow := make([]int, len(b.Ways))
	var fill func(i int)
	fill = func(i int) {
		if i == len(b.Ways) {
			if isFlow(b, flow) {
				all = append(all, slices.Clone(flow))
			}
			return
		}
		for n := b.Ways[i].Least; n <= b.Ways[i].Most; n++ {
			flow[i] = n
			fill(i + 1)
		}
	}
	fill(0)
	return all
}

// roomLists returns all ascending lists of rooms: those with fewer rooms first, and equally long ones in order.
func roomLists(rooms int) [][]int {
	all := [][]int{nil}
	for r := range rooms {
		for _, l := range slices.Clone(all) {
			all = append(all, append(slices.Clone(l), r))
		}
	}
	slices.SortFunc(all, func(a, b []int) int {
		return cmp.Or(cmp.Compare(len(a), len(b)), slices.Compare(a, b))
	})
	return all
}

func leavesRooms(w stamp.Way, rooms []int) bool {
	return slices.Contains(rooms, w.From) && !slices.Contains(rooms, w.To)
}

func entersRooms(w stamp.Way, rooms []int) bool {
	return slices.Contains(rooms, w.To) && !slices.Contains(rooms, w.From)
}

// isProof tells whether rooms are a proof against books.
func isProof(b stamp.Books, rooms []int) bool {
	least, most := 0, 0
	for _, w := range b.Ways {
		if leavesRooms(w, rooms) {
			least += w.Least
		}
		if entersRooms(w, rooms) {
			most += w.Most
		}
	}
	return least > most
}

// said returns what rooms say of a way, and whether they say anything.
func said(b stamp.Books, rooms []int, way int) (int, bool) {
	leastOut, mostIn := 0, 0
	for i, w := range b.Ways {
		if i != way && leavesRooms(w, rooms) {
			leastOut += w.Least
		}
		if i != way && entersRooms(w, rooms) {
			mostIn += w.Most
		}
	}
	switch {
	case leavesRooms(b.Ways[way], rooms):
		return mostIn - leastOut, true
	case entersRooms(b.Ways[way], rooms):
		return leastOut - mostIn, true
	}
	return 0, false
}

// ends returns the smallest and the greatest number of a way in some flows.
func ends(flows [][]int, way int) [2]int {
	l := make([]int, 0, len(flows))
	for _, f := range flows {
		l = append(l, f[way])
	}
	return [2]int{slices.Min(l), slices.Max(l)}
}

// randomWay returns a way between two different rooms.
func randomWay(r *rand.Rand, rooms, least, wide int) stamp.Way {
	from := r.IntN(rooms)
	to := (from + 1 + r.IntN(rooms-1)) % rooms
	lo := r.IntN(least + 1)
	return stamp.Way{From: from, To: to, Least: lo, Most: lo + r.IntN(wide+1)}
}

// randomBooks returns books of which some agree and some do not.
func randomBooks(r *rand.Rand, ways, least, wide int) stamp.Books {
	b := stamp.Books{Rooms: 2 + r.IntN(stamp.MaxRooms-1)}
	for range r.IntN(ways + 1) {
		b.Ways = append(b.Ways, randomWay(r, b.Rooms, least, wide))
	}
	return b
}

// agreeing returns books that agree: stamps go around in rings of rooms, and the bounds are laid around their numbers.
func agreeing(r *rand.Rand, ways, stamps, wide int) stamp.Books {
	b := stamp.Books{Rooms: 2 + r.IntN(stamp.MaxRooms-1)}
	for {
		ring := r.Perm(b.Rooms)[:2+r.IntN(b.Rooms-1)]
		if len(b.Ways)+len(ring) > ways {
			break
		}
		n := r.IntN(stamps + 1)
		for i, room := range ring {
			least := max(0, n-r.IntN(wide+1))
			most := min(stamp.MaxStamps, n+r.IntN(wide+1))
			b.Ways = append(b.Ways, stamp.Way{From: room, To: ring[(i+1)%len(ring)], Least: least, Most: most})
		}
	}
	return b
}

// samples returns small books, about half of which agree, whose flows can all be listed.
func samples(seed uint64, n int) []stamp.Books {
	r := rand.New(rand.NewPCG(seed, 1))
	var l []stamp.Books
	for range n {
		l = append(l, randomBooks(r, 6, 2, 3), agreeing(r, 7, 3, 1))
	}
	return l
}

// large returns books up to the limits.
func large(seed uint64, n int) []stamp.Books {
	r := rand.New(rand.NewPCG(seed, 2))
	var l []stamp.Books
	for range n {
		l = append(l, randomBooks(r, stamp.MaxWays, 20, 79), agreeing(r, stamp.MaxWays, stamp.MaxStamps, 15))
	}
	return l
}

// mustSpans returns the spans of books, which have to agree.
func mustSpans(t *testing.T, b stamp.Books) [][2]int {
	t.Helper()
	l, e := stamp.Spans(b)
	if e != api.OK || len(l) != len(b.Ways) {
		t.Fatalf("Spans of %v: %v %d", b, l, e)
	}
	return l
}
