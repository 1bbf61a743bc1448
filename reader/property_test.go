package reader_test

import (
	"math/rand/v2"
	"slices"
	"testing"

	"spadille/api"
	"spadille/reader"
)

// P8.8: no two words of a code can be read short as the same word, and none long.
func TestP8_8Levenshtein(t *testing.T) {
	for length := range 11 {
		for class := range length + 1 {
			short, long := map[string]string{}, map[string]string{}
			for _, w := range mustCode(t, length, class) {
				if length > 0 {
					claim(t, short, w, mustShort(t, w))
				}
				if length < 10 {
					claim(t, long, w, mustLong(t, w))
				}
			}
		}
	}
}

// claim notes for each reading which word it comes from, and fails if another one had it before.
func claim(t *testing.T, from map[string]string, word string, readings []string) {
	t.Helper()
	for _, r := range readings {
		if other, found := from[r]; found {
			t.Fatalf("%q and %q can both be read as %q", other, word, r)
		}
		from[r] = word
	}
}

// P8.8: whichever word was cut, Restore returns it from all readings.
func TestP8_8Restored(t *testing.T) {
	for _, w := range upTo(10) {
		_, class := mustClass(t, w)
		readings := words(w)
		if len(w) > 0 {
			readings = append(readings, mustShort(t, w)...)
		}
		if len(w) < 10 {
			readings = append(readings, mustLong(t, w)...)
		}
		for _, read := range readings {
			if back, e := reader.Restore(len(w), class, read); back != w || e != api.OK {
				t.Fatalf("Restore of %d, %d, %q: %q %d, want %q", len(w), class, read, back, e, w)
			}
		}
	}
}

// P8.8: parts of codes are safe.
func TestP8_8Codes(t *testing.T) {
	for length := 1; length <= 10; length++ {
		for class := range length + 1 {
			for part := range slices.Chunk(mustCode(t, length, class), 40) {
				if i, k, e := reader.Safe(part); e != api.OK {
					t.Fatalf("Safe of %q: %d %d %d", part, i, k, e)
				}
			}
		}
	}
}

// P8.9: two words can be read short as the same word just if they can be read long as the same one.
func TestP8_9ShortAndLong(t *testing.T) {
	check := func(a, b string) {
		t.Helper()
		if a == b {
			return
		}
		_, e := reader.Common(a, b)
		if long := both(mustLong(t, a), mustLong(t, b)); (e == api.OK) != (len(long) > 0) {
			t.Fatalf("Common of %q, %q: %d, but %q are read long of both", a, b, e, long)
		}
	}
	for length := 1; length <= 7; length++ {
		for _, a := range all(length) {
			for _, b := range all(length) {
				check(a, b)
			}
		}
	}
	r := rand.New(rand.NewPCG(8, 9))
	for range 300 {
		for _, length := range list(8, 9) {
			a := randomWord(r, length)
			check(a, randomWord(r, length))
			near := mustLong(t, mustShort(t, a)[0])
			check(a, near[r.IntN(len(near))])
		}
	}
}

// P8.10: a word has as many words read short as runs, and n + 2 read long.
func TestP8_10HowMany(t *testing.T) {
	for _, w := range upTo(10) {
		if len(w) > 0 {
			runs := 1
			for i := 1; i < len(w); i++ {
				if w[i] != w[i-1] {
					runs++
				}
			}
			if l := mustShort(t, w); len(l) != runs {
				t.Fatalf("Short of %q: %q", w, l)
			}
		}
		if len(w) < 10 {
			if l := mustLong(t, w); len(l) != len(w)+2 {
				t.Fatalf("Long of %q: %q", w, l)
			}
		}
	}
}

// P8.11: each word is in just one code of its length, and that of the class 0 is the greatest.
func TestP8_11Classes(t *testing.T) {
	for length := range 11 {
		var together []string
		first := mustSize(t, length, 0)
		for class := range length + 1 {
			l := mustCode(t, length, class)
			together = append(together, l...)
			if n := mustSize(t, length, class); n != len(l) || n > first {
				t.Errorf("Size of %d, %d: %d, and of class 0: %d", length, class, n, first)
			}
			for _, w := range l {
				if _, c := mustClass(t, w); c != class {
					t.Errorf("%q of the code %d, %d has the class %d", w, length, class, c)
				}
			}
		}
		slices.Sort(together)
		if !slices.Equal(together, all(length)) || first*(length+1) < len(together) {
			t.Errorf("the codes of %d letters are not all words, or that of the class 0 has too few", length)
		}
	}
}

// P8.12: the code of the class 0 is safe, and no words are more.
func TestP8_12Greatest(t *testing.T) {
	for length := 1; length <= 5; length++ {
		l := mustCode(t, length, 0)
		if _, _, e := reader.Safe(l); e != api.OK || len(l) != mustMost(t, length) {
			t.Errorf("%q: %d, and Most is %d", l, e, mustMost(t, length))
		}
		for class := range length + 1 {
			if n := mustSize(t, length, class); n > mustMost(t, length) {
				t.Errorf("Size of %d, %d: %d", length, class, n)
			}
		}
	}
}

// P8.13: written backwards, or with 0 and 1 exchanged, words are read as before.
func TestP8_13Turned(t *testing.T) {
	for _, change := range []func(string) string{backwards, exchanged} {
		for _, w := range upTo(10) {
			if len(w) > 0 && !slices.Equal(mustShort(t, change(w)), changed(mustShort(t, w), change)) {
				t.Fatalf("Short of %q: %q", change(w), mustShort(t, change(w)))
			}
			if len(w) < 10 && !slices.Equal(mustLong(t, change(w)), changed(mustLong(t, w), change)) {
				t.Fatalf("Long of %q: %q", change(w), mustLong(t, change(w)))
			}
		}
		r := rand.New(rand.NewPCG(8, 13))
		for range 200 {
			for _, l := range [][]string{safeWords(r), randomWords(r, 5)} {
				var other []string
				for _, w := range l {
					other = append(other, change(w))
				}
				i, k, e := reader.Safe(l)
				if a, b, f := reader.Safe(other); a != i || b != k || f != e {
					t.Fatalf("Safe of %q: %d %d %d, but %d %d %d of %q", other, a, b, f, i, k, e, l)
				}
			}
		}
	}
}

// P8.14: with a word less, safe words remain safe.
func TestP8_14Fewer(t *testing.T) {
	r := rand.New(rand.NewPCG(8, 14))
	for range 100 {
		for _, l := range [][]string{safeWords(r), randomWords(r, 4)} {
			if _, _, e := reader.Safe(l); e != api.OK {
				continue
			}
			for i := range l {
				if a, b, e := reader.Safe(slices.Delete(slices.Clone(l), i, i+1)); e != api.OK {
					t.Fatalf("Safe of %q without %d: %d %d %d", l, i, a, b, e)
				}
			}
		}
	}
}

// S4: the two words that Safe returns prove by Common that words are not safe, and no words before them do.
func TestSafeProofs(t *testing.T) {
	r := rand.New(rand.NewPCG(8, 16))
	for range 300 {
		l := randomWords(r, 8)
		i, k, e := reader.Safe(l)
		if (e == api.OK) != safe(l) {
			t.Fatalf("Safe of %q: %d", l, e)
		}
		if e == api.OK {
			continue
		}
		w, f := reader.Common(l[i], l[k])
		if f != api.OK || !slices.Contains(mustShort(t, l[i]), w) || !slices.Contains(mustShort(t, l[k]), w) {
			t.Fatalf("Safe of %q: %d %d, but Common of them: %q %d", l, i, k, w, f)
		}
	}
}
