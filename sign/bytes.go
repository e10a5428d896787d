package sign

import (
	"math"

	"packhorse/api"
	"packhorse/num"
)

// write a signature: its size, how many blocks, and they.
func write(l []api.Block, size int) (string, error) {
	w := num.NewWriter()
	w.Num(size)
	w.Num(len(l))
	for _, b := range l {
		w.Num(b.N)
		w.Num(b.Weak)
		w.Num(int(b.Strong))
	}
	return w.Done()
}

// read what write wrote; whether there may be such blocks is not asked here.
func read(s string) ([]api.Block, int, error) {
	r := num.NewReader(s)
	size, n := r.Num(), r.Num()
	var list []api.Block
	for i := 0; i < n && r.Err() == nil; i++ { // n is what the text tells: it may be far more than there are
		list = append(list, readBlock(r))
	}
	return list, size, r.End()
}

func readBlock(r *num.Reader) api.Block {
	n, low, strong := r.Num(), r.Num(), r.Num()
	if strong > math.MaxUint32 {
		r.Fail(api.ErrText)
	}
	return api.Block{N: n, Weak: low, Strong: uint32(strong)}
}
