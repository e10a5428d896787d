package gate

import (
	"slices"
	"testing"
)

// Whoever goes through the tokens may end it ahead of the last one.
func TestRisingEnds(t *testing.T) {
	l := tokens{"c": 3, "a": 1, "b": 2}
	for end := 1; end <= 3; end++ {
		var got []string
		for token, epoch := range l.rising() {
			got = append(got, token)
			if epoch == end {
				break
			}
		}
		if want := []string{"a", "b", "c"}[:end]; !slices.Equal(got, want) {
			t.Errorf("%v, want %v", got, want)
		}
	}
}
