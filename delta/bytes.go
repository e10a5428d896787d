package delta

import (
	"packhorse/api"
	"packhorse/num"
)

// The kinds of an op, as numbers.
const (
	numCopy = 0
	numData = 1
)

// write ops: how many, and they. That each of them is one was asked ahead.
func write(ops []api.Op) (string, error) {
	w := num.NewWriter()
	w.Num(len(ops))
	for _, op := range ops {
		writeOp(w, op)
	}
	s, err := w.Done()
	if err == nil && len(s) > api.MaxText {
		return "", api.ErrBound
	}
	return s, err
}

func writeOp(w *num.Writer, op api.Op) {
	if op.Kind == KindData {
		w.Num(numData)
		w.Text(op.Data)
		return
	}
	w.Num(numCopy)
	w.Num(op.At)
	w.Num(op.N)
}

// read what write wrote; whether there may be such ops is not asked here.
func read(s string) ([]api.Op, error) {
	if len(s) > api.MaxText {
		return nil, api.ErrBound
	}
	r := num.NewReader(s)
	n := r.Num()
	var ops []api.Op
	for i := 0; i < n && r.Err() == nil; i++ { // n is what the text tells: it may be far more than there are
		ops = append(ops, readOp(r))
	}
	return ops, r.End()
}

func readOp(r *num.Reader) api.Op {
	switch r.Num() {
	case numCopy:
		at, n := r.Num(), r.Num()
		return api.Op{Kind: KindCopy, At: at, N: n}
	case numData:
		return api.Op{Kind: KindData, Data: r.Text()}
	}
	r.Fail(api.ErrText)
	return api.Op{}
}
