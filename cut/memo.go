package cut

// memo keeps the values of a rule by their keys. The rule may ask the memo for
// the values of other keys, so that each of them is computed only once.
type memo[K comparable, V any] struct {
	rule  func(m *memo[K, V], key K) V
	known map[K]V
}

// newMemo returns a memo that does not know any value yet.
func newMemo[K comparable, V any](rule func(m *memo[K, V], key K) V) *memo[K, V] {
	return &memo[K, V]{rule: rule, known: map[K]V{}}
}

// of returns the value of a key.
func (m *memo[K, V]) of(key K) V {
	if v, ok := m.known[key]; ok {
		return v
	}
	v := m.rule(m, key)
	m.known[key] = v
	return v
}
