package reader

import "slices"

// shorter returns all words as which a word can be read short, in ascending order.
// Turned round, these are the words that can be read long as this word.
func shorter(word string) []string {
	var words []string
	for i := range word {
		words = append(words, word[:i]+word[i+1:])
	}
	return different(words)
}

// longer returns all words as which a word can be read long, in ascending order.
// Turned round, these are the words that can be read short as this word.
func longer(word string) []string {
	var words []string
	for _, letter := range letters {
		for i := range word {
			words = append(words, word[:i]+string(letter)+word[i:])
		}
		words = append(words, word+string(letter))
	}
	return different(words)
}

// common returns the first word as which two words can be read short, and whether there is one.
func common(a, b string) (string, bool) {
	others := shorter(b)
	for _, word := range shorter(a) {
		if slices.Contains(others, word) {
			return word, true
		}
	}
	return "", false
}

// different sorts words and drops those that occur before.
func different(words []string) []string {
	slices.Sort(words)
	return slices.Compact(words)
}
