package press_test

import (
	"math/rand/v2"
	"slices"
	"testing"

	"spadille/api"
	"spadille/press"
)

// P6.8: fewer measures are needed than there are positions, so with as many measures one can be left out.
func TestP6_8Bondy(t *testing.T) {
	r := rand.New(rand.NewPCG(6, 8))
	for range 2000 {
		table := toldTable(r)
		if l := mustNeeded(t, table); len(l) >= len(table) {
			t.Fatalf("Needed of %v: %v", table, l)
		}
		if l := mustIdle(t, table); len(table[0]) >= len(table) && len(l) == 0 {
			t.Fatalf("Idle of %v: none", table)
		}
		if l := mustFewest(t, table); len(l) >= len(table) {
			t.Fatalf("Fewest of %v: %v", table, l)
		}
	}
}

// P6.4: each measure is idle or needed, and the two positions of a needed one prove it.
func TestP6_8Proofs(t *testing.T) {
	r := rand.New(rand.NewPCG(6, 4))
	for range 2000 {
		table := toldTable(r)
		all := mustIdle(t, table)
		for _, n := range mustNeeded(t, table) {
			all = append(all, n[0])
			if l := mustDiffer(t, table, n[1], n[2]); !slices.Equal(l, n[:1]) {
				t.Fatalf("%v: %v does not prove that %d is needed", table, n[1:], n[0])
			}
		}
		slices.Sort(all)
		if !slices.Equal(all, measures(table)) {
			t.Fatalf("%v: idle and needed are %v", table, all)
		}
	}
}

// P6.9: measures tell all apart just if they hit what Differ returns for each two positions; needed ones are alone there.
func TestP6_9Hit(t *testing.T) {
	r := rand.New(rand.NewPCG(6, 9))
	for range 1000 {
		table := anyTable(r)
		m := randomMeasures(r, table)
		hit, alone := true, make([]bool, 8)
		for b := range table {
			for a := range b {
				l := mustDiffer(t, table, a, b)
				hit = hit && slices.ContainsFunc(l, func(n int) bool { return slices.Contains(m, n) })
				if len(l) == 1 {
					alone[l[0]] = true
				}
			}
		}
		if _, _, e := press.Apart(table, m); hit != (e == api.OK) {
			t.Fatalf("Apart of %v, %v: %d", table, m, e)
		}
		needed, e := press.Needed(table)
		for _, n := range needed {
			if !alone[n[0]] {
				t.Fatalf("%v: %d is not needed", table, n[0])
			}
			alone[n[0]] = false
		}
		if e == api.OK && slices.Contains(alone, true) {
			t.Fatalf("Needed of %v: %v", table, needed)
		}
	}
}

// P6.10: how many positions can be told apart, and how deep a table can be.
func TestP6_10HowMany(t *testing.T) {
	r := rand.New(rand.NewPCG(6, 10))
	for range 1000 {
		table := anyTable(r)
		m := randomMeasures(r, table)
		most := 1
		for range m {
			values := 0
			for _, l := range table {
				values = max(values, 1+slices.Max(l))
			}
			most *= values
		}
		if n := len(mustGroups(t, table, m)); n > most {
			t.Fatalf("Groups of %v, %v: %d", table, m, n)
		}
		table = toldTable(r)
		if n := mustDeep(t, table); n > len(mustFewest(t, table)) || n >= len(table) {
			t.Fatalf("Deep of %v: %d", table, n)
		}
	}
}

// P6.11: each position is in just one group; with more measures groups are parts of those before.
func TestP6_11Groups(t *testing.T) {
	r := rand.New(rand.NewPCG(6, 11))
	for range 2000 {
		table := anyTable(r)
		m := randomMeasures(r, table)
		before := mustGroups(t, table, m)
		all := slices.Concat(before...)
		slices.Sort(all)
		if !slices.Equal(all, upTo(len(table))) {
			t.Fatalf("Groups of %v, %v: %v", table, m, before)
		}
		more := slices.Concat(m, randomMeasures(r, table))
		slices.Sort(more)
		for _, group := range mustGroups(t, table, slices.Compact(more)) {
			inside := func(old []int) bool {
				return !slices.ContainsFunc(group, func(p int) bool { return !slices.Contains(old, p) })
			}
			if !slices.ContainsFunc(before, inside) {
				t.Fatalf("%v: the group %v of %v is in none of %v", table, group, more, before)
			}
		}
	}
}

// P6.12: a position fits its values; more that is seen leaves no others, and Next always fewer.
func TestP6_12Seen(t *testing.T) {
	r := rand.New(rand.NewPCG(6, 12))
	for range 2000 {
		table := anyTable(r)
		p := r.IntN(len(table))
		var seen []press.Seen
		before := mustFrom(t, table, seen)
		for {
			m, e := press.Next(table, seen)
			if e != api.OK {
				break
			}
			seen = append(seen, press.Seen{Measure: m, Value: table[p][m]})
			now := mustFrom(t, table, seen)
			if len(now) >= len(before) || !slices.Contains(now, p) || slices.ContainsFunc(now, func(q int) bool { return !slices.Contains(before, q) }) {
				t.Fatalf("From of %v, %v: %v, and before %v", table, seen, now, before)
			}
			before = now
		}
		if told(table, measures(table), before[0], before[len(before)-1]) {
			t.Fatalf("%v: Next stops at %v with %v", table, seen, before)
		}
		for _, m := range measures(table) {
			seen := append(randomSeen(r, table), press.Seen{Measure: m, Value: r.IntN(10)})
			if l, e := press.From(table, seen); e == api.OK && len(l) > len(mustFrom(t, table, seen[:len(seen)-1])) {
				t.Fatalf("From of %v, %v: %v", table, seen, l)
			}
		}
	}
}

// shuffled returns a table with its positions and measures in another order, and with other values.
func shuffled(r *rand.Rand, table [][]int) [][]int {
	order, names := r.Perm(len(table[0])), [][]int{}
	for range table[0] {
		names = append(names, r.Perm(10))
	}
	other := [][]int{}
	for _, p := range r.Perm(len(table)) {
		values := list()
		for _, m := range order {
			values = append(values, names[m][table[p][m]])
		}
		other = append(other, values)
	}
	return other
}

// P6.13: the order of positions and measures and the names of values have no influence on how many and how deep.
func TestP6_13Order(t *testing.T) {
	r := rand.New(rand.NewPCG(6, 13))
	for range 1000 {
		table := toldTable(r)
		other := shuffled(r, table)
		if mustCount(t, table) != mustCount(t, other) || len(mustFewest(t, table)) != len(mustFewest(t, other)) || mustDeep(t, table) != mustDeep(t, other) {
			t.Fatalf("%v and %v are not alike", table, other)
		}
	}
}

// P6.14: with one more measure, or a position less, nothing is worse.
func TestP6_14More(t *testing.T) {
	r := rand.New(rand.NewPCG(6, 14))
	for range 1000 {
		table := toldTable(r)
		m := randomMeasures(r, table)
		_, _, e := press.Apart(table, m)
		if len(table) > 1 {
			less := slices.Delete(slices.Clone(table), 0, 1)
			if _, _, f := press.Apart(less, m); e == api.OK && f != api.OK || mustDeep(t, less) > mustDeep(t, table) {
				t.Fatalf("%v is worse without the first position", table)
			}
		}
		if len(table[0]) == 8 {
			continue
		}
		more := [][]int{}
		for _, values := range table {
			more = append(more, append(slices.Clone(values), r.IntN(10)))
		}
		if _, _, f := press.Apart(more, m); f != e || mustDeep(t, more) > mustDeep(t, table) || mustCount(t, more) < 2*mustCount(t, table) {
			t.Fatalf("%v is worse than %v", more, table)
		}
	}
}
