package files

import (
	"math"

	"packhorse/api"
	"packhorse/num"
)

// write lines: how many, and they.
func write(l []Line) (string, error) {
	w := num.NewWriter()
	w.Num(len(l))
	for _, x := range l {
		w.Text(x.Name)
		w.Num(x.N)
		w.Num(int(x.Sum))
	}
	return w.Done()
}

// read what write wrote; whether there may be such lines is not asked here.
func read(s string) ([]Line, error) {
	r := num.NewReader(s)
	n := r.Num()
	var l []Line
	for i := 0; i < n && r.Err() == nil; i++ { // n is what the text tells: it may be far more than there are
		l = append(l, readLine(r))
	}
	return l, r.End()
}

func readLine(r *num.Reader) Line {
	name, n, c := r.Text(), r.Num(), r.Num()
	if c > math.MaxUint32 {
		r.Fail(api.ErrText)
	}
	return Line{Name: name, N: n, Sum: uint32(c)}
}
