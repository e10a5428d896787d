package window

// frame that waits: to be answered, or for one that is due ahead of it. A struct, not a bare text: LANGUAGE.md wants that of a map that is made and asked in one call, as where a window is played to its end.
type frame struct{ data string }

// frames by their numbers.
type frames map[int]frame

func (f frames) has(n int) bool {
	_, is := f[n]
	return is
}

// inOrder are those of count numbers from first on that are there. The numbers go round, so that to sort them would not put them in order.
func (f frames) inOrder(first, count int) []int {
	var l []int
	round(first, count, func(n int) {
		if f.has(n) {
			l = append(l, n)
		}
	})
	return l
}
