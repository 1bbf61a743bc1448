package reader

// The letters, and both of them in their order.
const (
	zero    rune = '0'
	one     rune = '1'
	letters      = "01"
)

func isLength(n int) bool { return n >= 0 && n <= MaxLength }

func isClass(n, length int) bool { return n >= 0 && n <= length }

// weightOf returns the sum of the numbers of a word's letters 1.
func weightOf(word string) int {
	weight := 0
	for i, letter := range word {
		if letter == one {
			weight += i + 1
		}
	}
	return weight
}

// classOf returns the class of a word.
func classOf(word string) int { return weightOf(word) % (len(word) + 1) }

// allWords returns all words of a length in ascending order.
func allWords(length int) []string {
	words := []string{""}
	for range length {
		var next []string
		for _, word := range words {
			for _, letter := range letters {
				next = append(next, word+string(letter))
			}
		}
		words = next
	}
	return words
}

// code returns all words of a code in ascending order.
func code(length, class int) []string {
	var words []string
	for _, word := range allWords(length) {
		if classOf(word) == class {
			words = append(words, word)
		}
	}
	return words
}
