package reader_test

import (
	"math"
	"slices"
	"strings"
	"testing"

	"spadille/api"
	"spadille/reader"
)

// The limits are those of the chapter.
func TestLimits(t *testing.T) {
	if reader.MaxLength != 10 || reader.MaxWords != 40 || reader.MaxSafe != 5 {
		t.Error("a limit is not as the chapter gives it")
	}
}

// P8.1: which words are valid, and which error the others have first (R1); the chapter's examples of Class, and others.
func TestP8_1Check(t *testing.T) {
	for _, x := range []struct {
		word          string
		weight, class int
		e             api.Errno
	}{
		{"0110", 5, 0, 0}, {"1", 1, 1, 0}, {"", 0, 0, 0}, {"0", 0, 0, 0}, {"10", 1, 1, 0}, {"01", 2, 2, 0}, {"11", 3, 0, 0},
		{"1111111111", 55, 0, 0}, {"0000000001", 10, 10, 0}, {"0000000011", 19, 8, 0}, {"1000000001", 11, 0, 0},
		{"2", 0, 0, api.ErrWord}, {"01a0", 0, 0, api.ErrWord}, {"é", 0, 0, api.ErrWord}, {"\x00", 0, 0, api.ErrWord}, {"\xff", 0, 0, api.ErrWord},
		{"0000000002", 0, 0, api.ErrWord}, {"/0", 0, 0, api.ErrWord}, {"１", 0, 0, api.ErrWord}, {"0 1", 0, 0, api.ErrWord},
		{"00000000000", 0, 0, api.ErrLong}, {"22222222222", 0, 0, api.ErrLong}, {"éééééé", 0, 0, api.ErrLong}, {"ééééé", 0, 0, api.ErrWord},
		{strings.Repeat("1", 100000), 0, 0, api.ErrLong},
	} {
		if e := reader.Check(x.word); e != x.e {
			t.Errorf("Check of %q: %d, want %d", x.word, e, x.e)
		}
		if weight, class, e := reader.Class(x.word); weight != x.weight || class != x.class || e != x.e {
			t.Errorf("Class of %q: %d %d %d, want %d %d %d", x.word, weight, class, e, x.weight, x.class, x.e)
		}
	}
}

// P8.1, P8.2, P8.4, P8.5, P8.6: all functions return the error of Check for a word, and nothing else with it (R2).
func TestP8_1CheckFirst(t *testing.T) {
	for _, w := range wrong() {
		want := verdict(w)
		if e := reader.Check(w); e != want || e == api.OK {
			t.Errorf("Check of %.20q: %d, want %d", w, e, want)
		}
		weight, class, e1 := reader.Class(w)
		short, e2 := reader.Short(w)
		long, e3 := reader.Long(w)
		errors := []api.Errno{e1, e2, e3}
		empty := weight == 0 && class == 0 && len(short)+len(long) == 0
		for _, n := range append(odd(), 0, 1, len(w)) {
			cut, e4 := reader.Cut(n, w)
			word, e5 := reader.Restore(n, n, w)
			errors = append(errors, e4, e5)
			empty = empty && len(cut) == 0 && word == ""
		}
		for _, other := range words("", "0", "01", w) {
			a, e6 := reader.Common(w, other)
			b, e7 := reader.Common(other, w)
			errors = append(errors, e6, e7)
			empty = empty && a == "" && b == ""
		}
		for _, l := range [][]string{{w}, {w, ""}, {w, w, "2"}, {"01", w}, {"0", "1", w, "01", "", "0"}} {
			i, k, e8 := reader.Safe(l)
			errors = append(errors, e8)
			empty = empty && i == 0 && k == 0
		}
		if !empty {
			t.Errorf("%.20q: results besides an error", w)
		}
		for i, e := range errors {
			if e != want {
				t.Errorf("%.20q: error %d is %d, want %d", w, i, e, want)
			}
		}
	}
}

// P8.2: the chapter's examples of Short and Long, others, and their errors.
func TestP8_2Read(t *testing.T) {
	for _, x := range []struct {
		word        string
		short, long []string
		s, l        api.Errno
	}{
		{"0110", words("010", "011", "110"), words("00110", "01010", "01100", "01101", "01110", "10110"), 0, 0},
		{"111", words("11"), words("0111", "1011", "1101", "1110", "1111"), 0, 0}, {"01", words("0", "1"), words("001", "010", "011", "101"), 0, 0},
		{"", nil, words("0", "1"), api.ErrEmpty, 0}, {"0", words(""), words("00", "01", "10"), 0, 0}, {"1", words(""), words("01", "10", "11"), 0, 0},
		{"0000000000", words("000000000"), nil, 0, api.ErrMany}, {"0000011111", words("000001111", "000011111"), nil, 0, api.ErrMany},
	} {
		if l, e := reader.Short(x.word); !slices.Equal(l, x.short) || e != x.s {
			t.Errorf("Short of %q: %q %d, want %q %d", x.word, l, e, x.short, x.s)
		}
		if l, e := reader.Long(x.word); !slices.Equal(l, x.long) || e != x.l {
			t.Errorf("Long of %q: %q %d, want %q %d", x.word, l, e, x.long, x.l)
		}
	}
	if l, e := reader.Short("0101010101"); len(l) != 10 || e != api.OK {
		t.Errorf("Short of 0101010101: %q %d", l, e)
	}
	if l, e := reader.Long("010101010"); len(l) != 11 || e != api.OK {
		t.Errorf("Long of 010101010: %q %d", l, e)
	}
}

// P8.3: the chapter's examples of Code and Size, others, and their errors.
func TestP8_3Code(t *testing.T) {
	for _, x := range []struct {
		length, class int
		want          []string
		e             api.Errno
	}{
		{4, 0, words("0000", "0110", "1001", "1111"), 0}, {4, 1, words("0101", "1000", "1110"), 0}, {0, 0, words(""), 0}, {1, 0, words("0"), 0}, {1, 1, words("1"), 0},
		{2, 0, words("00", "11"), 0}, {2, 1, words("10"), 0}, {2, 2, words("01"), 0}, {3, 3, words("001", "110"), 0},
		{-1, 0, nil, api.ErrRange}, {11, 0, nil, api.ErrRange}, {4, 5, nil, api.ErrRange}, {4, -1, nil, api.ErrRange}, {0, 1, nil, api.ErrRange}, {0, -1, nil, api.ErrRange},
		{10, 11, nil, api.ErrRange}, {11, 11, nil, api.ErrRange}, {-1, -1, nil, api.ErrRange},
		{math.MaxInt, 0, nil, api.ErrRange}, {math.MinInt, math.MinInt, nil, api.ErrRange}, {10, math.MaxInt, nil, api.ErrRange}, {10, math.MinInt, nil, api.ErrRange},
	} {
		if l, e := reader.Code(x.length, x.class); !slices.Equal(l, x.want) || e != x.e {
			t.Errorf("Code of %d, %d: %q %d, want %q %d", x.length, x.class, l, e, x.want, x.e)
		}
		if n, e := reader.Size(x.length, x.class); n != len(x.want) || e != x.e {
			t.Errorf("Size of %d, %d: %d %d, want %d %d", x.length, x.class, n, e, len(x.want), x.e)
		}
	}
	for _, x := range [][3]int{{4, 0, 4}, {4, 1, 3}, {5, 0, 6}, {10, 0, 94}} {
		if n := mustSize(t, x[0], x[1]); n != x[2] {
			t.Errorf("Size of %d, %d: %d, want %d", x[0], x[1], n, x[2])
		}
	}
}

// P8.4: the chapter's examples of Cut, others, and its errors.
func TestP8_4Cut(t *testing.T) {
	for _, x := range []struct {
		length int
		read   string
		want   []string
		e      api.Errno
	}{
		{3, "01", words("001", "010", "011", "101"), 0}, {3, "0110", words("010", "011", "110"), 0}, {3, "011", words("011"), 0},
		{0, "", words(""), 0}, {0, "0", words(""), 0}, {0, "1", words(""), 0}, {1, "", words("0", "1"), 0}, {1, "1", words("1"), 0}, {1, "10", words("0", "1"), 0}, {1, "11", words("1"), 0},
		{10, "1111111111", words("1111111111"), 0}, {9, "1111111111", words("111111111"), 0}, {9, "0000000001", words("000000000", "000000001"), 0},
		{2, "", nil, api.ErrShape}, {0, "01", nil, api.ErrShape}, {10, "00000000", nil, api.ErrShape}, {8, "0000000000", nil, api.ErrShape}, {10, "", nil, api.ErrShape},
		{-1, "", nil, api.ErrRange}, {11, "0000000000", nil, api.ErrRange}, {-1, "0000000000", nil, api.ErrRange}, {12, "", nil, api.ErrRange},
		{math.MaxInt, "0", nil, api.ErrRange}, {math.MinInt, "0", nil, api.ErrRange}, {math.MinInt, "2", nil, api.ErrWord}, {11, "00000000000", nil, api.ErrLong}, {10, "00000000000", nil, api.ErrLong},
	} {
		if l, e := reader.Cut(x.length, x.read); !slices.Equal(l, x.want) || e != x.e {
			t.Errorf("Cut of %d, %q: %q %d, want %q %d", x.length, x.read, l, e, x.want, x.e)
		}
	}
	if l := mustCut(t, 10, "000000000"); len(l) != 11 || l[0] != "0000000000" || l[10] != "1000000000" {
		t.Errorf("Cut of 10, 000000000: %q", l)
	}
}

// P8.5: the chapter's examples of Restore, others, and its errors.
func TestP8_5Restore(t *testing.T) {
	for _, x := range []struct {
		length, class int
		read, want    string
		e             api.Errno
	}{
		{4, 0, "010", "0110", 0}, {4, 0, "11", "", api.ErrShape}, {4, 0, "01100", "0110", 0}, {4, 0, "0110", "0110", 0},
		{0, 0, "", "", 0}, {0, 0, "0", "", 0}, {0, 0, "1", "", 0}, {1, 0, "", "0", 0}, {1, 1, "", "1", 0}, {1, 1, "01", "1", 0}, {1, 0, "11", "", api.ErrLost},
		{4, 0, "0111", "", api.ErrLost}, {4, 4, "0111", "0111", 0}, {4, 1, "01111", "", api.ErrLost}, {10, 0, "111111111", "1111111111", 0}, {10, 0, "0000000000", "0000000000", 0},
		{9, 0, "0000000010", "000000000", 0}, {4, 5, "010", "", api.ErrRange}, {4, -1, "0110", "", api.ErrRange}, {4, 5, "0111", "", api.ErrRange}, {4, 5, "11", "", api.ErrShape},
		{-1, 0, "", "", api.ErrRange}, {11, 0, "0", "", api.ErrRange}, {4, 0, "012", "", api.ErrWord}, {11, 20, "222", "", api.ErrWord}, {4, 0, "00000000000", "", api.ErrLong},
		{4, math.MaxInt, "0110", "", api.ErrRange}, {4, math.MinInt, "0110", "", api.ErrRange}, {0, 1, "", "", api.ErrRange},
	} {
		if w, e := reader.Restore(x.length, x.class, x.read); w != x.want || e != x.e {
			t.Errorf("Restore of %d, %d, %q: %q %d, want %q %d", x.length, x.class, x.read, w, e, x.want, x.e)
		}
	}
}

// P8.6: the chapter's examples of Common, others, and its errors in their order (R1).
func TestP8_6Common(t *testing.T) {
	for _, x := range []struct {
		a, b, want string
		e          api.Errno
	}{
		{"0110", "0011", "011", 0}, {"0110", "1001", "", api.ErrLost}, {"0", "1", "", 0}, {"01", "10", "0", 0}, {"00", "11", "", api.ErrLost}, {"11", "10", "1", 0},
		{"0101", "1010", "010", 0}, {"1010", "0101", "010", 0}, {"0000000001", "1000000000", "000000000", 0}, {"0000000011", "1100000000", "", api.ErrLost},
		{"", "", "", api.ErrShape}, {"", "0", "", api.ErrShape}, {"0", "", "", api.ErrShape}, {"01", "010", "", api.ErrShape}, {"0110", "0110", "", api.ErrTwice}, {"0", "0", "", api.ErrTwice},
		{"2", "2", "", api.ErrWord}, {"2", "00000000000", "", api.ErrWord}, {"00000000000", "2", "", api.ErrLong}, {"0", "2", "", api.ErrWord}, {"", "2", "", api.ErrWord},
		{"0", "00000000000", "", api.ErrLong}, {"00000000000", "00000000000", "", api.ErrLong},
	} {
		if w, e := reader.Common(x.a, x.b); w != x.want || e != x.e {
			t.Errorf("Common of %q, %q: %q %d, want %q %d", x.a, x.b, w, e, x.want, x.e)
		}
	}
}

// P8.6: the chapter's examples of Safe, others, and its errors in their order (R1).
func TestP8_6Safe(t *testing.T) {
	code := codeOf(10, 0)
	bad := slices.Repeat(words("2"), 41)
	for _, x := range []struct {
		words []string
		i, k  int
		e     api.Errno
	}{
		{words("0000", "0110", "1001", "1111"), 0, 0, 0}, {words("00", "11", "01"), 0, 2, api.ErrClash}, {nil, 0, 0, 0}, {words("0"), 0, 0, 0}, {words("1111111111"), 0, 0, 0},
		{words("0", "1"), 0, 1, api.ErrClash}, {words("11", "00", "01", "10"), 0, 2, api.ErrClash}, {words("0000", "1111", "0110", "0011", "1100"), 2, 3, api.ErrClash},
		{words("000", "111", "101", "110"), 1, 2, api.ErrClash}, {words("000", "011", "101", "110", "100"), 0, 4, api.ErrClash},
		{code[:40], 0, 0, 0}, {code[54:], 0, 0, 0}, {code[:41], 0, 0, api.ErrMany}, {bad, 0, 0, api.ErrMany}, {bad[:40], 0, 0, api.ErrWord},
		{append(slices.Clone(code[:39]), "0000000001"), 0, 39, api.ErrClash}, {append(slices.Clone(code[:39]), code[38]), 0, 0, api.ErrTwice},
		{words(""), 0, 0, api.ErrShape}, {words("", ""), 0, 0, api.ErrShape}, {words("", "2"), 0, 0, api.ErrShape}, {words("2", ""), 0, 0, api.ErrWord},
		{words("0", ""), 0, 0, api.ErrShape}, {words("0", "01"), 0, 0, api.ErrShape}, {words("01", "0"), 0, 0, api.ErrShape}, {words("0", "0"), 0, 0, api.ErrTwice},
		{words("0", "1", "0"), 0, 0, api.ErrTwice}, {words("0", "1", "01", "0"), 0, 0, api.ErrShape}, {words("0", "0", "01"), 0, 0, api.ErrTwice}, {words("0", "0", "2"), 0, 0, api.ErrTwice},
		{words("0", "2", "0"), 0, 0, api.ErrWord}, {words("0", "01", "00000000000"), 0, 0, api.ErrShape}, {words("0", "00000000000", "01"), 0, 0, api.ErrLong},
		{words("00000000000", "2"), 0, 0, api.ErrLong}, {words("2", "00000000000"), 0, 0, api.ErrWord}, {words("01", "012"), 0, 0, api.ErrWord},
	} {
		if i, k, e := reader.Safe(x.words); i != x.i || k != x.k || e != x.e {
			t.Errorf("Safe of %q: %d %d %d, want %d %d %d", x.words, i, k, e, x.i, x.k, x.e)
		}
	}
	if i, k, e := reader.Safe(make([]string, 100000)); i != 0 || k != 0 || e != api.ErrMany {
		t.Errorf("Safe of 100000 words: %d %d %d", i, k, e)
	}
}

// P8.7: the chapter's examples of Most, and its errors.
func TestP8_7Most(t *testing.T) {
	for i, want := range list(1, 2, 2, 4, 6) {
		if n := mustMost(t, i+1); n != want {
			t.Errorf("Most of %d: %d, want %d", i+1, n, want)
		}
	}
	for _, n := range append(odd(), 0, 6, 7, 10) {
		if most, e := reader.Most(n); most != 0 || e != api.ErrRange {
			t.Errorf("Most of %d: %d %d", n, most, e)
		}
	}
}
