package cut_test

import (
	"slices"
	"testing"

	"spadille/api"
	"spadille/cut"
)

// R4: no argument is changed, also not behind its end.
func TestMemoryArguments(t *testing.T) {
	s := sheet(3, 4, 2, 1)
	for _, l := range fillingsOf(s) {
		room := append(slices.Clone(l), cards("99t", "99t")...)
		given := room[:len(l)]
		before := slices.Clone(room)
		cut.Verify(s, given)
		cut.Cuts(s, given)
		cut.Straight(s, given)
		cut.Rounds(s, given)
		if !slices.Equal(room, before) {
			t.Fatalf("%v is changed to %v", before, room)
		}
	}
}

// R4: results share no memory: what is done to one shows in no other.
func TestMemoryResults(t *testing.T) {
	s := sheet(3, 3, 1, 1)
	filling, _ := cut.Fill(s)
	ask := func() [][]int {
		rows, columns, _ := cut.Cuts(s, filling)
		colours, _ := cut.Colours(s, 2)
		return [][]int{rows, columns, colours}
	}
	want := [][]int{{1, 2}, {1, 2}, {5, 4}}
	one := ask()
	for _, l := range one {
		for i := range l {
			l[i] = -1
		}
		_ = append(l, -1)
	}
	if two := ask(); !slices.EqualFunc(two, want, slices.Equal) {
		t.Errorf("results are %v", two)
	}
	rows, columns, _ := cut.Cuts(s, filling)
	_ = append(rows, 9)
	rows[0] = 9
	if !slices.Equal(columns, list(1, 2)) {
		t.Errorf("the columns are %v", columns)
	}
	for _, ask := range []func(cut.Sheet) ([]cut.Card, api.Errno){cut.Fill, cut.Solid} {
		l, _ := ask(sheet(5, 6, 2, 1))
		before := slices.Clone(l)
		clear(l)
		if again, e := ask(sheet(5, 6, 2, 1)); !slices.Equal(again, before) || e != api.OK {
			t.Errorf("%v, and then %v", before, again)
		}
	}
}

// R3: nil and a list without elements are the same.
func TestNil(t *testing.T) {
	for _, l := range [][]cut.Card{nil, {}} {
		if e := cut.Verify(sheet(1, 1, 1, 1), l); e != api.ErrOpen {
			t.Errorf("Verify: %d", e)
		}
		checkZero(t, sheet(1, 1, 1, 1), l, api.ErrOpen)
	}
}

// P1: several callers at once do not disturb each other, and equal arguments have equal results.
func TestAtOnce(t *testing.T) {
	done := make(chan bool)
	want, _ := cut.Solid(sheet(5, 6, 2, 1))
	for range 8 {
		go func() {
			same := true
			for range 20 {
				l, e := cut.Solid(sheet(5, 6, 2, 1))
				n, f := cut.Count(sheet(6, 6, 2, 1))
				same = same && slices.Equal(l, want) && e == api.OK && n == 6728 && f == api.OK
			}
			done <- same
		}()
	}
	for range 8 {
		if !<-done {
			t.Error("results differ from call to call")
		}
	}
}
