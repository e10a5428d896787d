package basis

import (
	"cmp"
	"slices"

	"packhorse/sum"
)

// front is how much of a text was gone through, and the sum of that.
type front struct {
	of  string
	n   int
	sum uint32
}

// upTo goes on to the first n bytes, and tells their sum: n never falls, so
// that each byte is gone through once, however many marks there are.
func (f *front) upTo(n int) uint32 {
	f.sum, f.n = sum.More(f.sum, f.of[f.n:n]), n
	return f.sum
}

// rising are the marks of this name whose bytes there are, by how many: a front goes on that way alone.
func rising(l []Mark, name string, n int) []Mark {
	var there []Mark
	for _, m := range l {
		if m.Name == name && m.N >= 0 && m.N <= n {
			there = append(there, m)
		}
	}
	slices.SortFunc(there, func(a, b Mark) int { return cmp.Compare(a.N, b.N) })
	return there
}

func marks(name, data string, step int) []Mark {
	f := front{of: data}
	l := make([]Mark, 0, len(data)/step)
	for n := step; n <= len(data); n += step {
		l = append(l, Mark{Name: name, N: n, Sum: f.upTo(n)})
	}
	return l
}
