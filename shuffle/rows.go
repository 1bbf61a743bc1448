package shuffle

import "math/bits"

// rowOf returns for each card the number of its rising row.
func rowOf(pack []int) []int {
	place := placeOf(pack)
	rows := make([]int, len(pack))
	for card := 1; card < len(pack); card++ {
		rows[card] = rows[card-1]
		if place[card] < place[card-1] {
			rows[card]++
		}
	}
	return rows
}

// amount returns how many rising rows a pack has.
func amount(pack []int) int {
	rows := rowOf(pack)
	return rows[len(rows)-1] + 1
}

// digits returns how many binary digits tell the rising rows of a pack apart.
func digits(pack []int) int { return bits.Len(uint(amount(pack) - 1)) }

// choices returns in how many ways some of n things can be chosen.
func choices(n, some int) int {
	ways := 1
	for i := 1; i <= some; i++ {
		ways = ways * (n - some + i) / i
	}
	return ways
}

// packs returns how many packs of so many cards have so many rising rows.
func packs(cards, rows int) int {
	have := make([]int, cards+1)
	have[1] = 1
	for n := 2; n <= cards; n++ {
		// A card that is put on top of n-1 cards adds no row if its number is just below
		// the numbers of one, and divides a row or adds one otherwise.
		for r := n; r >= 1; r-- {
			have[r] = r*have[r] + (n+1-r)*have[r-1]
		}
	}
	return have[rows]
}
