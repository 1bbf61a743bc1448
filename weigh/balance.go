package weigh

import "spadille/api"

// side tells where a card lies.
type side int

const (
	away side = iota
	onLeft
	onRight
)

// result is what a balance does.
type result interface {
	outcome() int
}

// level is the result that neither side goes down.
type level struct{}

// tilt is the result that one side goes down.
type tilt struct {
	down side
}

// outcome returns the number of the result.
func (level) outcome() int { return Even }

// outcome returns the number of the result.
func (t tilt) outcome() int {
	if t.down == onLeft {
		return Left
	}
	return Right
}

// results returns what a balance can do.
func results() [3]result { return [3]result{level{}, tilt{onLeft}, tilt{onRight}} }

// resultOf returns the result of an outcome's number, and whether there is one.
func resultOf(outcome int) (result, bool) {
	for _, r := range results() {
		if r.outcome() == outcome {
			return r, true
		}
	}
	return nil, false
}

// leaves returns what remains possible for a card of a kind that lay at a side.
func leaves(r result, kind int, at side) int {
	switch r := r.(type) {
	case level:
		if at == away {
			return kind
		}
	case tilt:
		if at == r.down {
			return kind & Heavy
		}
		if at != away {
			return kind & Light
		}
	}
	return Good
}

// shown returns what a balance does if a guess is true whose card lies at a side.
func shown(g Guess, at side) result {
	switch {
	case at == away:
		return level{}
	case g.Heavy == (at == onLeft):
		return tilt{onLeft}
	}
	return tilt{onRight}
}

// kind returns the kind of a card for which only the guess is possible.
func (g Guess) kind() int {
	if g.Heavy {
		return Heavy
	}
	return Light
}

// possible returns whether a guess is possible.
func possible(kinds []int, g Guess) bool {
	return g.Card >= 0 && g.Card < len(kinds) && kinds[g.Card]&g.kind() != 0
}

// guesses returns all possible guesses in ascending order.
func guesses(kinds []int) []Guess {
	var all []Guess
	for card := range kinds {
		for _, g := range [...]Guess{{card, false}, {card, true}} {
			if possible(kinds, g) {
				all = append(all, g)
			}
		}
	}
	return all
}

// laid returns where each card of a case lies, or the error of the case or of the weighing.
func laid(kinds []int, w Weighing) ([]side, api.Errno) {
	if e := Check(kinds); e != api.OK {
		return nil, e
	}
	return placesOf(len(kinds), w)
}

// placesOf returns where each of so many cards lies, or the error of a weighing.
func placesOf(cards int, w Weighing) ([]side, api.Errno) {
	places := make([]side, cards)
	if e := lay(places, w.Left, onLeft); e != api.OK {
		return nil, e
	}
	if e := lay(places, w.Right, onRight); e != api.OK {
		return nil, e
	}
	if len(w.Left) != len(w.Right) || len(w.Left) == 0 {
		return nil, api.ErrShape
	}
	return places, api.OK
}

// lay notes that some cards lie at a side, or returns the error of the first one that cannot.
func lay(places []side, some []int, at side) api.Errno {
	for _, card := range some {
		if card < 0 || card >= len(places) {
			return api.ErrNone
		}
		if places[card] != away {
			return api.ErrTwice
		}
		places[card] = at
	}
	return api.OK
}
