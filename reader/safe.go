package reader

import (
	"slices"

	"spadille/api"
)

// checkWords returns the error of a list of words that are to be safe.
func checkWords(words []string) api.Errno {
	if len(words) > MaxWords {
		return api.ErrMany
	}
	for i, word := range words {
		if e := Check(word); e != api.OK {
			return e
		}
		if len(word) != len(words[0]) || word == "" {
			return api.ErrShape
		}
		if slices.Contains(words[:i], word) {
			return api.ErrTwice
		}
	}
	return api.OK
}

// clash returns the first two words that can be read short as the same word, and whether there are some as an error.
func clash(words []string) (i, k int, e api.Errno) {
	for i, a := range words {
		for k := i + 1; k < len(words); k++ {
			if _, found := common(a, words[k]); found {
				return i, k, api.ErrClash
			}
		}
	}
	return 0, 0, api.OK
}

// most returns how many words of up to MaxSafe letters can be safe.
// The code of the class 0 is safe (P8.8), and no more words of these lengths are (P8.12).
func most(length int) int { return len(code(length, 0)) }
