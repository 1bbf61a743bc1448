package reader_test

import (
	"math"
	"math/rand/v2"
	"slices"
	"strings"
	"testing"

	"spadille/api"
	"spadille/reader"
)

// This file says again what the chapter's definitions say, as plainly as possible and
// without the package, so that the other tests can compare the package with it.

func list(l ...int) []int { return l }

func words(l ...string) []string { return l }

// verdict returns the error of a word.
func verdict(word string) api.Errno {
	if len(word) > 10 {
		return api.ErrLong
	}
	for i := range len(word) {
		if word[i] < 48 || word[i] > 49 {
			return api.ErrWord
		}
	}
	return api.OK
}

// safeVerdict returns the error of a list of words, and the first two that clash.
func safeVerdict(l []string) (int, int, api.Errno) {
	if len(l) > 40 {
		return 0, 0, api.ErrMany
	}
	for i, w := range l {
		e := verdict(w)
		if e == api.OK && (len(w) != len(l[0]) || len(w) == 0) {
			e = api.ErrShape
		}
		for _, before := range l[:i] {
			if e == api.OK && before == w {
				e = api.ErrTwice
			}
		}
		if e != api.OK {
			return 0, 0, e
		}
	}
	for i := range l {
		for k := range l {
			if i < k && len(both(shortOf(l[i]), shortOf(l[k]))) > 0 {
				return i, k, api.ErrClash
			}
		}
	}
	return 0, 0, api.OK
}

// all returns all words of a length: the numbers below 2 to the power of it, in binary digits.
func all(length int) []string {
	var l []string
	for n := range 1 << length {
		var b strings.Builder
		for digit := length - 1; digit >= 0; digit-- {
			b.WriteByte(byte(48 + n>>digit&1))
		}
		l = append(l, b.String())
	}
	return l
}

// upTo returns all words of up to so many letters.
func upTo(length int) []string {
	var l []string
	for n := range length + 1 {
		l = append(l, all(n)...)
	}
	return l
}

// weigh returns the weight and the class of a word.
func weigh(word string) (weight, class int) {
	for number := 1; number <= len(word); number++ {
		weight += number * int(word[number-1]-48)
	}
	return weight, weight % (len(word) + 1)
}

// isShort returns whether a word can be read short as another one.
func isShort(word, read string) bool {
	if len(read) != len(word)-1 {
		return false
	}
	for i := range len(word) {
		if word[:i] == read[:i] && word[i+1:] == read[i:] {
			return true
		}
	}
	return false
}

// isLong returns whether a word can be read long as another one: without some letter, this one is the word.
func isLong(word, read string) bool { return isShort(read, word) }

// shortOf returns all words as which a word can be read short.
func shortOf(word string) []string {
	var l []string
	for i := range len(word) {
		l = append(l, word[:i]+word[i+1:])
	}
	slices.Sort(l)
	return slices.Compact(l)
}

// longOf returns all words as which a word can be read long.
func longOf(word string) []string {
	var l []string
	for i := range len(word) + 1 {
		l = append(l, word[:i]+"0"+word[i:], word[:i]+"1"+word[i:])
	}
	slices.Sort(l)
	return slices.Compact(l)
}

// both returns the words that two lists have.
func both(a, b []string) []string {
	return slices.DeleteFunc(slices.Clone(a), func(w string) bool { return !slices.Contains(b, w) })
}

// codeOf returns all words of a code.
func codeOf(length, class int) []string {
	return slices.DeleteFunc(all(length), func(w string) bool {
		_, c := weigh(w)
		return c != class
	})
}

// safe returns whether words are safe: no word is read short of two of them.
func safe(l []string) bool {
	seen := map[string]bool{}
	for _, w := range l {
		for _, s := range shortOf(w) {
			if seen[s] {
				return false
			}
			seen[s] = true
		}
	}
	return true
}

// mostSafe returns how many of some words can be added at most, so that they remain safe.
func mostSafe(candidates []string) int {
	if len(candidates) == 0 {
		return 0
	}
	first, others := candidates[0], candidates[1:]
	rest := slices.DeleteFunc(slices.Clone(others), func(w string) bool { return !safe(words(first, w)) })
	most := 1 + mostSafe(rest)
	if len(rest) < len(others) {
		most = max(most, mostSafe(others))
	}
	return most
}

// backwards returns a word written backwards.
func backwards(word string) string {
	b := []byte(word)
	slices.Reverse(b)
	return string(b)
}

// exchanged returns a word with 0 and 1 exchanged.
func exchanged(word string) string {
	return strings.NewReplacer("0", "1", "1", "0").Replace(word)
}

// changed returns words that a function changes, in ascending order.
func changed(l []string, change func(string) string) []string {
	var other []string
	for _, w := range l {
		other = append(other, change(w))
	}
	return slices.Sorted(slices.Values(other))
}

// randomWord returns a word of so many letters.
func randomWord(r *rand.Rand, length int) string { return all(length)[r.IntN(1<<length)] }

// randomWords returns different words of the same length, not more than so many.
func randomWords(r *rand.Rand, most int) []string {
	length := 1 + r.IntN(10)
	l := all(length)
	r.Shuffle(len(l), func(i, k int) { l[i], l[k] = l[k], l[i] })
	return l[:min(len(l), r.IntN(most+1))]
}

// safeWords returns some words of a code, in any order.
func safeWords(r *rand.Rand) []string {
	length := 1 + r.IntN(10)
	l := codeOf(length, r.IntN(length+1))
	r.Shuffle(len(l), func(i, k int) { l[i], l[k] = l[k], l[i] })
	return l[:min(len(l), r.IntN(41))]
}

// odd returns numbers that are mostly outside of all bounds.
func odd() []int {
	return list(math.MinInt, math.MinInt+1, -11, -10, -2, -1, 11, 12, 40, 41, 64, 1<<32, math.MaxInt-1, math.MaxInt)
}

// wrong returns words that are not valid.
func wrong() []string {
	l := words("2", "/", "a", " ", "01 ", " 01", "0l", "O", "012", "1.0", "-1", "+0", "0\n", "\x00", "\x01", "\x00\x01", "0\x80", "\xff", "\xff1",
		"é", "０", "１１", "𝟎", "٠", "10\u0301", "0\xe2\x82", "0000000002", "2000000000", "000000000\x80", "00000000é",
		"00000000000", "11111111111", "22222222222", "0000000000é", "éééééé", "𝟎𝟎𝟎", strings.Repeat("01", 50000), strings.Repeat("\x00", 50000))
	for b := range 256 {
		if w := string([]byte{48, byte(b), 49}); verdict(w) != api.OK {
			l = append(l, w)
		}
	}
	return l
}

func mustClass(t *testing.T, word string) (weight, class int) {
	t.Helper()
	weight, class, e := reader.Class(word)
	if e != api.OK {
		t.Fatalf("Class of %q: %d", word, e)
	}
	return weight, class
}

func mustShort(t *testing.T, word string) []string {
	t.Helper()
	l, e := reader.Short(word)
	if e != api.OK {
		t.Fatalf("Short of %q: %d", word, e)
	}
	return l
}

func mustLong(t *testing.T, word string) []string {
	t.Helper()
	l, e := reader.Long(word)
	if e != api.OK {
		t.Fatalf("Long of %q: %d", word, e)
	}
	return l
}

func mustCode(t *testing.T, length, class int) []string {
	t.Helper()
	l, e := reader.Code(length, class)
	if e != api.OK {
		t.Fatalf("Code of %d, %d: %d", length, class, e)
	}
	return l
}

func mustSize(t *testing.T, length, class int) int {
	t.Helper()
	n, e := reader.Size(length, class)
	if e != api.OK {
		t.Fatalf("Size of %d, %d: %d", length, class, e)
	}
	return n
}

func mustCut(t *testing.T, length int, read string) []string {
	t.Helper()
	l, e := reader.Cut(length, read)
	if e != api.OK {
		t.Fatalf("Cut of %d, %q: %d", length, read, e)
	}
	return l
}

func mustMost(t *testing.T, length int) int {
	t.Helper()
	n, e := reader.Most(length)
	if e != api.OK {
		t.Fatalf("Most of %d: %d", length, e)
	}
	return n
}
