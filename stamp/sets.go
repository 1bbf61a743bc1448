package stamp

import "spadille/api"

// sizes holds how many rooms each set has. A set of rooms is a number in which a room has one bit.
var sizes = [1 << MaxRooms]int{
	0, 1, 1, 2, 1, 2, 2, 3, 1, 2, 2, 3, 2, 3, 3, 4,
	1, 2, 2, 3, 2, 3, 3, 4, 2, 3, 3, 4, 3, 4, 4, 5,
	1, 2, 2, 3, 2, 3, 3, 4, 2, 3, 3, 4, 3, 4, 4, 5,
	2, 3, 3, 4, 3, 4, 4, 5, 3, 4, 4, 5, 4, 5, 5, 6,
}

// side tells how a way leads, seen from a set of rooms.
type side int

const (
	beside side = iota
	leaves
	enters
)

// bit returns the set of one room. Room 0 has the highest bit: then, of sets with
// equally many rooms, the greatest number belongs to the first list of rooms (R6).
func bit(rooms, room int) int { return 1 << (rooms - 1 - room) }

// setOf returns the set of a list of rooms, or the error of the list.
func setOf(rooms int, list []int) (int, api.Errno) {
	set, last := 0, -1
	for _, r := range list {
		if r < 0 || r >= rooms {
			return 0, api.ErrNone
		}
		if r <= last {
			return 0, api.ErrOrder
		}
		set, last = set|bit(rooms, r), r
	}
	return set, api.OK
}

// listOf returns the rooms of a set in ascending order.
func listOf(rooms, set int) []int {
	var list []int
	for r := range rooms {
		if set&bit(rooms, r) != 0 {
			list = append(list, r)
		}
	}
	return list
}

// fewest returns, of the sets for which what is asked is true, the first one
// of those with as few rooms as possible, and whether there is any.
func fewest(rooms int, asked func(set int) bool) (int, bool) {
	best, found := 0, false
	for set := 1<<rooms - 1; set >= 0; set-- {
		if asked(set) && (!found || sizes[set] < sizes[best]) {
			best, found = set, true
		}
	}
	return best, found
}

// sideOf returns how a way leads, seen from a set of rooms.
func sideOf(rooms, set int, w Way) side {
	from := set&bit(rooms, w.From) != 0
	to := set&bit(rooms, w.To) != 0
	switch {
	case from && !to:
		return leaves
	case to && !from:
		return enters
	}
	return beside
}

// excess returns how many more stamps leave a set of rooms at least than enter it at most.
func excess(b Books, set int) int {
	sum := 0
	for _, w := range b.Ways {
		switch sideOf(b.Rooms, set, w) {
		case leaves:
			sum += w.Least
		case enters:
			sum -= w.Most
		}
	}
	return sum
}

// says returns how a way leads, seen from a set of rooms, and what they say of it
// if it is not beside them. The way itself is part of the excess, so it is taken out again.
func says(b Books, set, way int) (int, side) {
	w := b.Ways[way]
	s := sideOf(b.Rooms, set, w)
	switch s {
	case leaves:
		return w.Least - excess(b, set), s
	case enters:
		return w.Most + excess(b, set), s
	}
	return 0, s
}
