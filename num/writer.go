package num

import "packhorse/api"

// Each byte holds seven bits of a number; the bit above them says that more bytes follow.
const (
	bits = 7
	more = 1 << bits
)

// Writer puts numbers and texts one behind the other. Its first error stays, so that a caller may ask once, at the end.
type Writer struct {
	out []byte
	err error
}

// NewWriter with nothing written yet.
func NewWriter() *Writer { return &Writer{} }

// Num writes a number.
func (w *Writer) Num(n int) {
	if n < 0 || n > api.MaxNum {
		w.fail(api.ErrBound)
	}
	if w.err != nil {
		return
	}
	for n >= more {
		w.out = append(w.out, byte(n%more+more))
		n /= more
	}
	w.out = append(w.out, byte(n))
}

// Byte writes a byte as it is.
func (w *Writer) Byte(b byte) {
	if w.err == nil {
		w.out = append(w.out, b)
	}
}

// Text writes how many bytes a text has, and they.
func (w *Writer) Text(s string) {
	if len(s) > api.MaxText {
		w.fail(api.ErrBound)
	}
	w.Num(len(s))
	if w.err == nil {
		w.out = append(w.out, s...)
	}
}

// Done: all that was written, or the first error.
func (w *Writer) Done() (string, error) {
	if w.err != nil {
		return "", w.err
	}
	return string(w.out), nil
}

func (w *Writer) fail(err error) {
	if w.err == nil {
		w.out, w.err = nil, err
	}
}
