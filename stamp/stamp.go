// Package stamp is layer 1: stamps that go from room to room. See shared/doc/01-stamp.md.
package stamp

import (
	"slices"

	"spadille/api"
)

// The limits.
const (
	MaxRooms  = 6
	MaxWays   = 12
	MaxStamps = 99
)

// Way leads from a room to another one, and from Least to Most stamps went there.
type Way struct {
	From  int
	To    int
	Least int
	Most  int
}

// Books are rooms, and the ways between them.
type Books struct {
	Rooms int
	Ways  []Way
}

// Check checks books.
func Check(b Books) api.Errno {
	if b.Rooms < 2 || b.Rooms > MaxRooms {
		return api.ErrRange
	}
	if len(b.Ways) > MaxWays {
		return api.ErrMany
	}
	for _, w := range b.Ways {
		if e := checkWay(b.Rooms, w); e != api.OK {
			return e
		}
	}
	return api.OK
}

// checkWay returns the error of a single way.
func checkWay(rooms int, w Way) api.Errno {
	switch {
	case w.From < 0 || w.From >= rooms || w.To < 0 || w.To >= rooms:
		return api.ErrNone
	case w.From == w.To:
		return api.ErrClash
	case w.Least < 0 || w.Most > MaxStamps || w.Least > w.Most:
		return api.ErrRange
	}
	return api.OK
}

// Can returns whether books agree.
func Can(b Books) (bool, api.Errno) {
	if e := Check(b); e != api.OK {
		return false, e
	}
	return agree(b), api.OK
}

// First returns the first flow.
func First(b Books) ([]int, api.Errno) {
	if e := checkAgree(b); e != api.OK {
		return nil, e
	}
	return first(b), api.OK
}

// Verify checks a flow.
func Verify(b Books, flow []int) api.Errno {
	if e := Check(b); e != api.OK {
		return e
	}
	if len(flow) != len(b.Ways) {
		return api.ErrShape
	}
	for i, w := range b.Ways {
		if flow[i] < w.Least || flow[i] > w.Most {
			return api.ErrRange
		}
	}
	if !balanced(b, flow) {
		return api.ErrSum
	}
	return api.OK
}

// Other returns the first flow that is not the given one.
func Other(b Books, flow []int) ([]int, api.Errno) {
	if e := Verify(b, flow); e != api.OK {
		return nil, e
	}
	if other := first(b); !slices.Equal(other, flow) {
		return other, api.OK
	}
	other, found := second(b, flow)
	if !found {
		return nil, api.ErrLost
	}
	return other, api.OK
}

// Against returns rooms that prove that there is no flow: as few as possible, and the first of these.
func Against(b Books) ([]int, api.Errno) {
	if e := Check(b); e != api.OK {
		return nil, e
	}
	set, found := proof(b)
	if !found {
		return nil, api.ErrClash
	}
	return listOf(b.Rooms, set), api.OK
}

// Proves checks such rooms.
func Proves(b Books, rooms []int) api.Errno {
	if e := Check(b); e != api.OK {
		return e
	}
	set, e := setOf(b.Rooms, rooms)
	if e != api.OK {
		return e
	}
	if excess(b, set) <= 0 {
		return api.ErrProof
	}
	return api.OK
}

// Span returns the smallest and the greatest number that a way has in any flow.
func Span(b Books, way int) (least, most int, e api.Errno) {
	if e := checkNamed(b, way); e != api.OK {
		return 0, 0, e
	}
	if !agree(b) {
		return 0, 0, api.ErrLost
	}
	least, most = span(b, way)
	return least, most, api.OK
}

// Spans returns the spans of all ways.
func Spans(b Books) ([][2]int, api.Errno) {
	if e := checkAgree(b); e != api.OK {
		return nil, e
	}
	spans := make([][2]int, len(b.Ways))
	for i := range spans {
		least, most := span(b, i)
		spans[i] = [2]int{least, most}
	}
	return spans, api.OK
}

// Open returns the ways that are not sure: those that have different numbers in different flows.
func Open(b Books) ([]int, api.Errno) {
	spans, e := Spans(b)
	if e != api.OK {
		return nil, e
	}
	var open []int
	for i, s := range spans {
		if s[0] != s[1] {
			open = append(open, i)
		}
	}
	return open, api.OK
}

// Says returns what rooms say of a way: a number that it cannot exceed if it leaves
// them, and one below which it cannot be if it enters them.
func Says(b Books, rooms []int, way int) (int, api.Errno) {
	if e := checkNamed(b, way); e != api.OK {
		return 0, e
	}
	set, e := setOf(b.Rooms, rooms)
	if e != api.OK {
		return 0, e
	}
	n, s := says(b, set, way)
	if s == beside {
		return 0, api.ErrLost
	}
	return n, api.OK
}

// Bound returns rooms that prove an end of a span, and none if the bound of the way itself does.
func Bound(b Books, way int, greatest bool) ([]int, api.Errno) {
	if e := checkNamed(b, way); e != api.OK {
		return nil, e
	}
	if !agree(b) {
		return nil, api.ErrLost
	}
	least, most := span(b, way)
	end, told, wanted := least, b.Ways[way].Least, enters
	if greatest {
		end, told, wanted = most, b.Ways[way].Most, leaves
	}
	if end == told {
		return nil, api.OK
	}
	set, _ := fewest(b.Rooms, func(set int) bool {
		n, s := says(b, set, way)
		return s == wanted && n == end
	})
	return listOf(b.Rooms, set), api.OK
}
