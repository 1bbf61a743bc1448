package press

// A set of measures is a number with a bit for each of them. The first measure has the greatest
// bit: so, of two sets with as many measures, the greater number is the list that comes first.

// bit returns the set of one measure.
func bit(table [][]int, measure int) uint { return 1 << (len(table[0]) - 1 - measure) }

// listed returns a set as a list in ascending order.
func listed(table [][]int, set uint) []int {
	var list []int
	for measure := range table[0] {
		if set&bit(table, measure) != 0 {
			list = append(list, measure)
		}
	}
	return list
}

// differing returns for each two positions the set of all measures that tell them apart.
func differing(table [][]int) []uint {
	var sets []uint
	for b := range table {
		for a := range b {
			var set uint
			for measure := range table[0] {
				if table[a][measure] != table[b][measure] {
					set |= bit(table, measure)
				}
			}
			sets = append(sets, set)
		}
	}
	return sets
}

// telling returns all sets that tell all positions apart, the greatest number first.
// As P6.9 says, these are the sets that hit what is different for each two positions.
func telling(table [][]int) []uint {
	pairs := differing(table)
	var sets []uint
	for less := uint(1) << len(table[0]); less > 0; less-- {
		if set := less - 1; hitsAll(set, pairs) {
			sets = append(sets, set)
		}
	}
	return sets
}

// hitsAll returns whether a set has an element in common with each of the others.
func hitsAll(set uint, others []uint) bool {
	for _, other := range others {
		if set&other == 0 {
			return false
		}
	}
	return true
}
