package stamp

import (
	"slices"

	"spadille/api"
)

// proof returns the first set with as few rooms as possible that proves that
// books do not agree, and whether there is one.
func proof(b Books) (int, bool) {
	return fewest(b.Rooms, func(set int) bool { return excess(b, set) > 0 })
}

// agree returns whether books have a flow: by Hoffman's theorem they do just if nothing proves the contrary.
func agree(b Books) bool {
	_, found := proof(b)
	return !found
}

// checkAgree returns the error of books, or ErrLost if they do not agree.
func checkAgree(b Books) api.Errno {
	if e := Check(b); e != api.OK {
		return e
	}
	if !agree(b) {
		return api.ErrLost
	}
	return api.OK
}

// checkNamed returns the error of books, or ErrNone if they do not have the way.
func checkNamed(b Books, way int) api.Errno {
	if e := Check(b); e != api.OK {
		return e
	}
	if way < 0 || way >= len(b.Ways) {
		return api.ErrNone
	}
	return api.OK
}

// span returns the span of a way of books that agree. What sets say of a way holds in all
// flows, and by Hoffman's theorem the strictest of them is reached by one.
func span(b Books, way int) (least, most int) {
	least, most = b.Ways[way].Least, b.Ways[way].Most
	for set := range 1 << b.Rooms {
		switch n, s := says(b, set, way); s {
		case leaves:
			most = min(most, n)
		case enters:
			least = max(least, n)
		}
	}
	return least, most
}

// kept returns books, in memory of their own, whose first ways have just the given numbers.
func kept(b Books, numbers []int) Books {
	b.Ways = slices.Clone(b.Ways)
	for i, n := range numbers {
		b.Ways[i].Least, b.Ways[i].Most = n, n
	}
	return b
}

// first returns the first flow of books that agree.
func first(b Books) []int {
	flow := make([]int, 0, len(b.Ways))
	for i := range b.Ways {
		least, _ := span(kept(b, flow), i)
		flow = append(flow, least)
	}
	return flow
}

// second returns the flow that comes next after the first one, and whether there is one.
// As many ways as possible keep their numbers, so the last way that can grow does.
func second(b Books, flow []int) ([]int, bool) {
	for i := len(flow) - 1; i >= 0; i-- {
		more := kept(b, flow[:i])
		more.Ways[i].Least = flow[i] + 1
		if flow[i] < more.Ways[i].Most && agree(more) {
			return first(more), true
		}
	}
	return nil, false
}

// balanced returns whether as many stamps come to each room as go from it.
func balanced(b Books, flow []int) bool {
	var stays [MaxRooms]int
	for i, w := range b.Ways {
		stays[w.From] -= flow[i]
		stays[w.To] += flow[i]
	}
	return stays == [MaxRooms]int{}
}
