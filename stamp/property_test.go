package stamp_test

import (
	"math/rand/v2"
	"slices"
	"testing"

	"spadille/api"
	"spadille/stamp"
)

// agreed returns those books that agree.
func agreed(t *testing.T, l []stamp.Books) []stamp.Books {
	t.Helper()
	l = slices.DeleteFunc(l, func(b stamp.Books) bool {
		is, e := stamp.Can(b)
		return !is || e != api.OK
	})
	if len(l) < 100 {
		t.Fatalf("only %d books agree", len(l))
	}
	return l
}

// P1.6: either there is a flow, or a proof, and each is accepted.
func TestP1_6Hoffman(t *testing.T) {
	for _, b := range append(samples(6, 400), large(6, 400)...) {
		is, e := stamp.Can(b)
		proved := slices.ContainsFunc(roomLists(b.Rooms), func(l []int) bool { return isProof(b, l) })
		if is == proved || e != api.OK {
			t.Fatalf("Can of %v: %v %d, but there is a proof: %v", b, is, e, proved)
		}
		flow, e := stamp.First(b)
		rooms, f := stamp.Against(b)
		if is && (e != api.OK || stamp.Verify(b, flow) != api.OK || !isFlow(b, flow) || f != api.ErrClash) {
			t.Fatalf("First of %v: %v %d, Against: %d", b, flow, e, f)
		}
		if !is && (f != api.OK || stamp.Proves(b, rooms) != api.OK || !isProof(b, rooms) || e != api.ErrLost) {
			t.Fatalf("Against %v: %v %d, First: %d", b, rooms, f, e)
		}
	}
}

// P1.7: all numbers of a span, and no others, are those of the way in some flow.
func TestP1_7AllBetween(t *testing.T) {
	for _, b := range agreed(t, samples(7, 400)) {
		flows := flowsOf(b)
		for i, s := range mustSpans(t, b) {
			var seen []int
			for _, f := range flows {
				seen = append(seen, f[i])
			}
			slices.Sort(seen)
			seen = slices.Compact(seen)
			if len(seen) != s[1]-s[0]+1 || seen[0] != s[0] || seen[len(seen)-1] != s[1] {
				t.Fatalf("way %d of %v has %v, but the span %v", i, b, seen, s)
			}
		}
	}
	for _, b := range agreed(t, large(7, 200)) {
		for i, s := range mustSpans(t, b) {
			for n := max(0, s[0]-1); n <= min(stamp.MaxStamps, s[1]+1); n++ {
				only := clone(b)
				only.Ways[i].Least, only.Ways[i].Most = n, n
				inside := n >= b.Ways[i].Least && n <= b.Ways[i].Most
				if is, e := stamp.Can(only); inside && is != (n >= s[0] && n <= s[1]) || e != api.OK {
					t.Fatalf("way %d of %v: %d can be: %v %d, span %v", i, b, n, is, e, s)
				}
			}
		}
	}
}

// P1.8: what rooms say holds in all flows, and for each end there are rooms that prove it.
func TestP1_8Proved(t *testing.T) {
	for _, b := range agreed(t, samples(8, 300)) {
		flows := flowsOf(b)
		for i, s := range mustSpans(t, b) {
			for _, l := range roomLists(b.Rooms) {
				n, e := stamp.Says(b, l, i)
				for _, f := range flows {
					if e == api.OK && (leavesRooms(b.Ways[i], l) && f[i] > n || entersRooms(b.Ways[i], l) && f[i] < n) {
						t.Fatalf("Says of %v, %v, %d: %d, but %v is a flow", b, l, i, n, f)
					}
				}
			}
			checkBound(t, b, i, true, s[1], b.Ways[i].Most)
			checkBound(t, b, i, false, s[0], b.Ways[i].Least)
		}
	}
}

// checkBound checks that the rooms that Bound returns say the end of the span, if what is told does not.
func checkBound(t *testing.T, b stamp.Books, way int, greatest bool, end, told int) {
	t.Helper()
	l, e := stamp.Bound(b, way, greatest)
	if end == told && (len(l) != 0 || e != api.OK) {
		t.Fatalf("Bound of %v, %d, %v: %v %d, but it is told", b, way, greatest, l, e)
	}
	if end == told {
		return
	}
	n, f := stamp.Says(b, l, way)
	side := greatest && leavesRooms(b.Ways[way], l) || !greatest && entersRooms(b.Ways[way], l)
	if n != end || !side || e != api.OK || f != api.OK {
		t.Fatalf("Bound of %v, %d, %v: %v %d, they say %d %d, want %d", b, way, greatest, l, e, n, f, end)
	}
}

// P1.9: the only way to a room and the only one from it have the same span.
func TestP1_9OneWay(t *testing.T) {
	met := 0
	for _, b := range agreed(t, append(samples(9, 800), large(9, 300)...)) {
		spans := mustSpans(t, b)
		for room := range b.Rooms {
			var to, from []int
			for i, w := range b.Ways {
				if w.To == room {
					to = append(to, i)
				}
				if w.From == room {
					from = append(from, i)
				}
			}
			if len(to) != 1 || len(from) != 1 {
				continue
			}
			met++
			if spans[to[0]] != spans[from[0]] {
				t.Fatalf("room %d of %v: %v", room, b, spans)
			}
		}
	}
	if met < 100 {
		t.Fatalf("only %d rooms with one way", met)
	}
}

// contains tells whether the span a contains the span b.
func contains(a, b [2]int) bool { return a[0] <= b[0] && a[1] >= b[1] }

// P1.10: what is told more exactly makes no span wider, and one more way that can be empty none narrower.
func TestP1_10More(t *testing.T) {
	r := rand.New(rand.NewPCG(10, 10))
	narrowed, added := 0, 0
	for _, b := range agreed(t, append(samples(10, 400), large(10, 300)...)) {
		spans := mustSpans(t, b)
		for i, w := range b.Ways {
			exact := clone(b)
			exact.Ways[i].Least += r.IntN(w.Most - w.Least + 1)
			exact.Ways[i].Most -= r.IntN(w.Most - exact.Ways[i].Least + 1)
			if is, _ := stamp.Can(exact); !is {
				continue
			}
			narrowed++
			for k, s := range mustSpans(t, exact) {
				if !contains(spans[k], s) {
					t.Fatalf("%v has the spans %v; told more exactly, %v, way %d has %v", b, spans, exact, k, s)
				}
			}
		}
		if len(b.Ways) == stamp.MaxWays {
			continue
		}
		added++
		more := clone(b)
		at := r.IntN(len(b.Ways) + 1)
		more.Ways = slices.Insert(more.Ways, at, randomWay(r, b.Rooms, 0, 9))
		if is, e := stamp.Can(more); !is || e != api.OK {
			t.Fatalf("Can of %v: %v %d, but without a way it agreed", more, is, e)
		}
		for k, s := range slices.Delete(mustSpans(t, more), at, at+1) {
			if !contains(s, spans[k]) {
				t.Fatalf("%v has the spans %v; with one more way, %v, way %d has %v", b, spans, more, k, s)
			}
		}
	}
	if narrowed < 300 || added < 300 {
		t.Fatalf("only %d were told more exactly, and %d had one more way", narrowed, added)
	}
}

// P1.11: other numbers of rooms, and another order of ways, change spans in no other way.
func TestP1_11Names(t *testing.T) {
	r := rand.New(rand.NewPCG(11, 11))
	for _, b := range append(samples(11, 400), large(11, 300)...) {
		rooms, ways := r.Perm(b.Rooms), r.Perm(len(b.Ways))
		named := stamp.Books{Rooms: b.Rooms, Ways: make([]stamp.Way, len(b.Ways))}
		for i, w := range b.Ways {
			w.From, w.To = rooms[w.From], rooms[w.To]
			named.Ways[ways[i]] = w
		}
		is, _ := stamp.Can(b)
		if same, e := stamp.Can(named); same != is || e != api.OK {
			t.Fatalf("Can of %v: %v; of %v: %v %d", b, is, named, same, e)
		}
		if !is {
			l, _ := stamp.Against(b)
			m, e := stamp.Against(named)
			if len(l) != len(m) || e != api.OK {
				t.Fatalf("Against %v: %v; %v: %v %d", b, l, named, m, e)
			}
			continue
		}
		spans := mustSpans(t, named)
		for i, s := range mustSpans(t, b) {
			if spans[ways[i]] != s {
				t.Fatalf("way %d of %v: %v; of %v: %v", i, b, s, named, spans)
			}
		}
	}
}

// P1.11: nothing changes if all ways lead the other way.
func TestP1_11Turned(t *testing.T) {
	for _, b := range append(samples(12, 400), large(12, 300)...) {
		turned := clone(b)
		for i, w := range b.Ways {
			turned.Ways[i].From, turned.Ways[i].To = w.To, w.From
		}
		checkSame(t, b, turned)
	}
}

// checkSame checks that books have the same flows and spans.
func checkSame(t *testing.T, a, b stamp.Books) {
	t.Helper()
	canA, _ := stamp.Can(a)
	canB, e := stamp.Can(b)
	firstA, _ := stamp.First(a)
	firstB, _ := stamp.First(b)
	spansA, _ := stamp.Spans(a)
	spansB, _ := stamp.Spans(b)
	openA, _ := stamp.Open(a)
	openB, _ := stamp.Open(b)
	if canA != canB || e != api.OK || !slices.Equal(firstA, firstB) || !slices.Equal(spansA, spansB) || !slices.Equal(openA, openB) {
		t.Fatalf("%v and %v: %v %v, %v %v, %v %v, %v %v, %d", a, b, canA, canB, firstA, firstB, spansA, spansB, openA, openB, e)
	}
}

// P1.11: a room without ways has no influence, whatever its number.
func TestP1_11Room(t *testing.T) {
	for _, b := range append(samples(13, 300), large(13, 200)...) {
		if b.Rooms == stamp.MaxRooms {
			continue
		}
		for at := range b.Rooms + 1 {
			more := clone(b)
			more.Rooms++
			up := func(room int) int {
				if room >= at {
					return room + 1
				}
				return room
			}
			for i, w := range b.Ways {
				more.Ways[i].From, more.Ways[i].To = up(w.From), up(w.To)
			}
			checkSame(t, b, more)
			l, e := stamp.Against(b)
			for i := range l {
				l[i] = up(l[i])
			}
			if m, f := stamp.Against(more); !slices.Equal(l, m) || e != f {
				t.Fatalf("Against %v: %v %d; %v: %v %d", b, l, e, more, m, f)
			}
			for i := range b.Ways {
				l, e := stamp.Bound(b, i, true)
				for k := range l {
					l[k] = up(l[k])
				}
				if m, f := stamp.Bound(more, i, true); !slices.Equal(l, m) || e != f {
					t.Fatalf("Bound of %v, %d: %v %d; of %v: %v %d", b, i, l, e, more, m, f)
				}
			}
		}
	}
}

// P1.12: nothing is open just if there is one flow, and two flows differ in at least two ways.
func TestP1_12Others(t *testing.T) {
	one := 0
	for _, b := range agreed(t, append(samples(14, 400), large(14, 300)...)) {
		open, e := stamp.Open(b)
		flow, f := stamp.First(b)
		other, g := stamp.Other(b, flow)
		if e != api.OK || f != api.OK || (len(open) == 0) != (g == api.ErrLost) || len(open) > 0 && g != api.OK {
			t.Fatalf("Open of %v: %v %d; Other: %v %d", b, open, e, other, g)
		}
		if len(open) == 0 {
			one++
			continue
		}
		apart := 0
		for i := range flow {
			if flow[i] != other[i] {
				apart++
				if !slices.Contains(open, i) {
					t.Fatalf("%v: %v and %v differ in way %d, open are %v", b, flow, other, i, open)
				}
			}
		}
		if apart < 2 || !isFlow(b, other) {
			t.Fatalf("Other of %v, %v: %v", b, flow, other)
		}
		if back, e := stamp.Other(b, other); !slices.Equal(back, flow) || e != api.OK {
			t.Fatalf("Other of %v, %v: %v %d, want %v", b, other, back, e, flow)
		}
	}
	if one < 30 {
		t.Fatalf("only %d books have one flow", one)
	}
}
