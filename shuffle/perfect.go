package shuffle

import (
	"slices"

	"spadille/api"
)

// isKind returns whether there is such a kind of perfect shuffles.
func isKind(kind int) bool { return kind == Out || kind == In }

// checkCards returns the error of a number of cards that are to be shuffled perfectly.
func checkCards(cards int) api.Errno {
	if cards < 2 || cards > MaxCards {
		return api.ErrRange
	}
	if cards%2 != 0 {
		return api.ErrShape
	}
	return api.OK
}

// perfect returns for each place the one from which a perfect shuffle brings a card there.
func perfect(cards, kind int) []int {
	riffle := make([]int, cards)
	for place := range riffle {
		riffle[place] = (place + kind) % 2
	}
	return sources(riffle)
}

// round returns after how many of these shuffles all cards are where they were.
func round(shuffle []int) int {
	sorted := upTo(len(shuffle))
	n := 1
	for pack := shuffle; !slices.Equal(pack, sorted); n++ {
		pack = taken(pack, shuffle)
	}
	return n
}

// walk is kinds of perfect shuffles, one after the other, and the place to which they bring a card.
type walk struct {
	place int
	kinds []int
}

// bring returns as few kinds as possible that bring a card from a place to another one, and the first such list.
func bring(cards, from, to int) []int {
	shuffles := [...][]int{Out: perfect(cards, Out), In: perfect(cards, In)}
	walks := []walk{{place: from}}
	known := make([]bool, cards)
	known[from] = true
	// Shorter walks stand before longer ones, and of equally long ones the first list stands first;
	// every place is reached, as P5.14 says.
	for walks[0].place != to {
		for kind, shuffle := range shuffles {
			place := slices.Index(shuffle, walks[0].place)
			if !known[place] {
				known[place] = true
				walks = append(walks, walk{place, append(slices.Clone(walks[0].kinds), kind)})
			}
		}
		walks = walks[1:]
	}
	return walks[0].kinds
}
