package reader_test

import (
	"math/rand/v2"
	"slices"
	"testing"

	"spadille/api"
	"spadille/reader"
)

// P8.1: all words, and all short strings of letters and others, compared with the definitions.
func TestP8_1AllWords(t *testing.T) {
	for _, w := range upTo(10) {
		weight, class := weigh(w)
		if a, b := mustClass(t, w); a != weight || b != class {
			t.Fatalf("Class of %q: %d %d, want %d %d", w, a, b, weight, class)
		}
	}
	strange := []byte{0, 1, 47, 48, 49, 50, 128, 195, 255}
	for _, a := range strange {
		for _, b := range strange {
			for _, c := range strange {
				w := string([]byte{a, b, c})
				if e := reader.Check(w); e != verdict(w) {
					t.Fatalf("Check of %q: %d, want %d", w, e, verdict(w))
				}
			}
		}
	}
}

// P8.2: what all words are read as, compared with the definitions.
func TestP8_2AllWords(t *testing.T) {
	for _, w := range upTo(10) {
		if len(w) > 0 {
			if l := mustShort(t, w); !slices.Equal(l, shortOf(w)) {
				t.Fatalf("Short of %q: %q, want %q", w, l, shortOf(w))
			}
		}
		if len(w) < 10 {
			if l := mustLong(t, w); !slices.Equal(l, longOf(w)) {
				t.Fatalf("Long of %q: %q, want %q", w, l, longOf(w))
			}
		}
	}
}

// P8.3: all codes, and all lengths and classes near the bounds, compared with the definitions.
func TestP8_3AllCodes(t *testing.T) {
	for length := -3; length <= 13; length++ {
		for class := -3; class <= 13; class++ {
			var want []string
			e := api.ErrRange
			if length >= 0 && length <= 10 && class >= 0 && class <= length {
				want, e = codeOf(length, class), api.OK
			}
			if l, f := reader.Code(length, class); !slices.Equal(l, want) || f != e {
				t.Fatalf("Code of %d, %d: %q %d, want %q %d", length, class, l, f, want, e)
			}
			if n, f := reader.Size(length, class); n != len(want) || f != e {
				t.Fatalf("Size of %d, %d: %d %d, want %d %d", length, class, n, f, len(want), e)
			}
		}
	}
}

// cutOf returns the words that can have been cut, and the error.
func cutOf(length int, read string) ([]string, api.Errno) {
	if length < 0 || length > 10 {
		return nil, api.ErrRange
	}
	if length-len(read) > 1 || len(read)-length > 1 {
		return nil, api.ErrShape
	}
	return slices.DeleteFunc(all(length), func(w string) bool {
		return w != read && !isShort(w, read) && !isLong(w, read)
	}), api.OK
}

// compareRestore compares Restore with the definition, for all classes of these words that can have been cut.
func compareRestore(t *testing.T, length int, read string, cut []string, e api.Errno) {
	t.Helper()
	for class := -2; class <= 12; class++ {
		want, f := words(), e
		if e == api.OK && (class < 0 || class > length) {
			f = api.ErrRange
		}
		if f == api.OK {
			want = both(cut, codeOf(length, class))
		}
		switch len(want) {
		case 0:
			want = words("")
			if f == api.OK {
				f = api.ErrLost
			}
		case 2:
			t.Fatalf("%q and %q are of the same code", want[0], want[1])
		}
		if w, g := reader.Restore(length, class, read); w != want[0] || g != f {
			t.Fatalf("Restore of %d, %d, %q: %q %d, want %q %d", length, class, read, w, g, want[0], f)
		}
	}
}

// compareCut compares Cut and Restore with the definitions.
func compareCut(t *testing.T, length int, read string) {
	t.Helper()
	want, e := cutOf(length, read)
	if l, f := reader.Cut(length, read); !slices.Equal(l, want) || f != e {
		t.Fatalf("Cut of %d, %q: %q %d, want %q %d", length, read, l, f, want, e)
	}
	compareRestore(t, length, read, want, e)
}

// P8.4, P8.5: all short words that were read, and samples of longer ones, compared with the definitions.
func TestP8_4AllReadings(t *testing.T) {
	for _, read := range upTo(7) {
		for length := -2; length <= 12; length++ {
			compareCut(t, length, read)
		}
	}
	r := rand.New(rand.NewPCG(8, 4))
	for range 60 {
		read := randomWord(r, 8+r.IntN(3))
		for length := len(read) - 1; length <= len(read)+1; length++ {
			compareCut(t, length, read)
		}
	}
}

// compareCommon compares Common with the definition.
func compareCommon(t *testing.T, a, b string) {
	t.Helper()
	want, e := "", api.OK
	switch l := both(shortOf(a), shortOf(b)); {
	case len(a) != len(b) || len(a) == 0:
		e = api.ErrShape
	case a == b:
		e = api.ErrTwice
	case len(l) == 0:
		e = api.ErrLost
	default:
		want = l[0]
	}
	if w, f := reader.Common(a, b); w != want || f != e {
		t.Fatalf("Common of %q, %q: %q %d, want %q %d", a, b, w, f, want, e)
	}
}

// P8.6: all pairs of short words, and samples of longer ones, compared with the definition.
func TestP8_6AllPairs(t *testing.T) {
	for _, a := range upTo(6) {
		for _, b := range upTo(6) {
			compareCommon(t, a, b)
		}
	}
	r := rand.New(rand.NewPCG(8, 6))
	for range 500 {
		for length := 7; length <= 10; length++ {
			a := randomWord(r, length)
			compareCommon(t, a, randomWord(r, length))
			near := longOf(shortOf(a)[0])
			compareCommon(t, a, near[r.IntN(len(near))])
		}
	}
}

// compareSafe compares Safe with the definition.
func compareSafe(t *testing.T, l []string) {
	t.Helper()
	i, k, e := safeVerdict(l)
	if a, b, f := reader.Safe(l); a != i || b != k || f != e {
		t.Fatalf("Safe of %q: %d %d %d, want %d %d %d", l, a, b, f, i, k, e)
	}
}

// P8.6: all lists of up to three short words, wrong ones among them, compared with the definition.
func TestP8_6AllLists(t *testing.T) {
	some := append(upTo(3), "2", "0x", "00000000000", "0000000000é")
	for _, a := range some {
		compareSafe(t, words(a))
		for _, b := range some {
			compareSafe(t, words(a, b))
			for _, c := range some {
				compareSafe(t, words(a, b, c))
			}
		}
	}
}

// P8.6: samples of longer lists, some of them spoilt, compared with the definition.
func TestP8_6LongLists(t *testing.T) {
	r := rand.New(rand.NewPCG(8, 7))
	for range 300 {
		for _, l := range [][]string{randomWords(r, 6), randomWords(r, 42), safeWords(r)} {
			compareSafe(t, l)
			if len(l) == 0 {
				continue
			}
			near := longOf(shortOf(l[0])[0])
			for _, w := range words(near[r.IntN(len(near))], l[r.IntN(len(l))], "", "3", randomWord(r, 10), "000000000000") {
				compareSafe(t, slices.Insert(slices.Clone(l), r.IntN(len(l)+1), w))
			}
		}
	}
}

// P8.7, P8.12: as many words as Most says are safe, and a search through all others finds no more.
func TestP8_7Search(t *testing.T) {
	for length := 1; length <= 5; length++ {
		want := mostSafe(all(length))
		if n := mustMost(t, length); n != want {
			t.Errorf("Most of %d: %d, want %d", length, n, want)
		}
	}
}
