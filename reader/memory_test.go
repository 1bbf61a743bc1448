package reader_test

import (
	"math/rand/v2"
	"slices"
	"strconv"
	"testing"

	"spadille/api"
	"spadille/reader"
)

// results calls all functions and returns the lists that they return, the others as one list.
func results(l []string, word, other string, length, class int) [][]string {
	short, _ := reader.Short(word)
	long, _ := reader.Long(word)
	code, _ := reader.Code(length, class)
	cut, _ := reader.Cut(length, word)
	restored, _ := reader.Restore(length, class, word)
	common, _ := reader.Common(word, other)
	weight, own, _ := reader.Class(word)
	size, _ := reader.Size(length, class)
	i, k, e := reader.Safe(l)
	most, _ := reader.Most(length)
	others := words(restored, common)
	for _, n := range list(int(reader.Check(word)), weight, own, size, i, k, int(e), most) {
		others = append(others, strconv.Itoa(n))
	}
	return [][]string{short, long, code, cut, others}
}

// equal returns whether lists of lists are the same.
func equal(a, b [][]string) bool { return slices.EqualFunc(a, b, slices.Equal) }

// R4: no argument is changed, also not behind its end, and results share no memory: what is done to one shows in no other.
func TestMemory(t *testing.T) {
	r := rand.New(rand.NewPCG(8, 40))
	for range 1000 {
		room := append(randomWords(r, 40), "behind", "behind")
		l := room[:len(room)-2]
		before := slices.Clone(room)
		length := r.IntN(11)
		class := r.IntN(length + 1)
		word, other := randomWord(r, min(10, max(1, length-1+r.IntN(3)))), randomWord(r, length)
		all := results(l, word, other, length, class)
		var kept [][]string
		for _, l := range all {
			kept = append(kept, slices.Clone(l))
		}
		for i, l := range all {
			for k := range l {
				l[k] = strconv.Itoa(-1 - i)
			}
		}
		for i, l := range all {
			if slices.ContainsFunc(l, func(w string) bool { return w != strconv.Itoa(-1-i) }) {
				t.Fatalf("%q, %q: results share memory", word, other)
			}
		}
		if !slices.Equal(room, before) {
			t.Fatalf("%q: arguments are changed", before)
		}
		if again := results(l, word, other, length, class); !equal(kept, again) {
			t.Fatalf("%q, %q, %q: %q, and then %q", l, word, other, kept, again)
		}
	}
}

// R3: nil and a list without elements are the same.
func TestNil(t *testing.T) {
	for _, l := range [][]string{nil, {}} {
		if i, k, e := reader.Safe(l); i != 0 || k != 0 || e != api.OK {
			t.Errorf("Safe of no words: %d %d %d", i, k, e)
		}
	}
}

// P1: several callers at once do not disturb each other, and equal arguments have equal results.
func TestAtOnce(t *testing.T) {
	l := words("0000", "0110", "1001", "1111", "0111")
	want := results(l, "0110", "0011", 5, 0)
	done := make(chan bool)
	for range 8 {
		go func() {
			same := true
			for range 50 {
				same = same && equal(results(l, "0110", "0011", 5, 0), want)
			}
			done <- same
		}()
	}
	for range 8 {
		if !<-done {
			t.Error("results differ from call to call")
		}
	}
}
