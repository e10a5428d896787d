package num

import "packhorse/api"

// maxBytes is what MaxNum takes; a bound on bytes keeps the shifts from running out of an int's bits.
const maxBytes = 6

// Reader takes numbers and texts from the front of a text. Its first error stays, and there is nothing left to read behind it.
type Reader struct {
	rest string
	err  error
}

// NewReader of a text.
func NewReader(s string) *Reader { return &Reader{rest: s} }

// Num reads a number (0 with an error).
func (r *Reader) Num() int {
	n := 0
	for i := 0; i < len(r.rest) && i < maxBytes; i++ {
		b := int(r.rest[i])
		n += (b % more) << (bits * i)
		if b < more {
			return r.whole(n, i)
		}
	}
	r.Fail(api.ErrText)
	return 0
}

// whole takes the number n off, whose last byte stands at the place last.
func (r *Reader) whole(n, last int) int {
	if last > 0 && r.rest[last] == 0 { // fewer bytes would do: each number is written in one way
		r.Fail(api.ErrText)
		return 0
	}
	if n > api.MaxNum {
		r.Fail(api.ErrBound)
		return 0
	}
	r.rest = r.rest[last+1:]
	return n
}

// Byte reads a byte as it is (0 with an error).
func (r *Reader) Byte() byte {
	if r.rest == "" {
		r.Fail(api.ErrText)
		return 0
	}
	b := r.rest[0]
	r.rest = r.rest[1:]
	return b
}

// Text reads a text (empty with an error).
func (r *Reader) Text() string {
	n := r.Num()
	if n > api.MaxText {
		r.Fail(api.ErrBound)
		return ""
	}
	if n > len(r.rest) {
		r.Fail(api.ErrText)
		return ""
	}
	s := r.rest[:n]
	r.rest = r.rest[n:]
	return s
}

// Rest: what is not read yet (empty with an error).
func (r *Reader) Rest() string { return r.rest }

// Err: the first error.
func (r *Reader) Err() error { return r.err }

// Fail ends the reading with an error of the caller's, unless there was one ahead of it.
func (r *Reader) Fail(err error) {
	if r.err == nil && err != nil {
		r.rest, r.err = "", err
	}
}

// End: the first error; bytes that are left are one, too.
func (r *Reader) End() error {
	if r.rest != "" {
		r.Fail(api.ErrText)
	}
	return r.err
}
