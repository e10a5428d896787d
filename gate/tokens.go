package gate

import (
	"iter"
	"maps"
	"slices"

	"packhorse/api"
)

// tokens are the last epochs by their tokens.
type tokens map[string]int

// hasRoom for a token: a new one takes more of it, one that is there does not.
func (l tokens) hasRoom(token string) bool {
	_, is := l[token]
	return is || len(l) < api.MaxTokens
}

// rising goes through the tokens by their bytes: a map by itself has no order that could be told.
func (l tokens) rising() iter.Seq2[string, int] {
	return func(yield func(token string, epoch int) bool) {
		for _, token := range slices.Sorted(maps.Keys(l)) {
			if !yield(token, l[token]) {
				return
			}
		}
	}
}

func isEpoch(n int) bool { return n >= 1 && n <= api.MaxEpoch }
