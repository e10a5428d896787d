package files

import (
	"slices"
	"strings"

	"packhorse/api"
	"packhorse/sum"
)

// named answers a call that says whether a file has this name.
func named(name string) func(api.File) bool {
	return func(f api.File) bool { return f.Name == name }
}

// with is a copy of l, whose names rise, that has f.
func with(l []api.File, f api.File) []api.File {
	at, there := slices.BinarySearchFunc(l, f.Name, func(g api.File, name string) int {
		return strings.Compare(g.Name, name)
	})
	would := slices.Clone(l)
	if there {
		would[at] = f
		return would
	}
	return slices.Insert(would, at, f)
}

func lineOf(f api.File) Line {
	return Line{Name: f.Name, N: len(f.Data), Sum: sum.Sum(f.Data)}
}
