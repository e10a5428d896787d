// Package num: numbers as bytes: see ../shared/doc/01-num.md.
package num

// Put a number.
func Put(n int) (string, error) {
	w := NewWriter()
	w.Num(n)
	return w.Done()
}

// Get a number.
func Get(s string) (int, string, error) {
	r := NewReader(s)
	n := r.Num()
	return n, r.Rest(), r.Err()
}

// PutText of a text.
func PutText(s string) (string, error) {
	w := NewWriter()
	w.Text(s)
	return w.Done()
}

// GetText of a text.
func GetText(s string) (string, string, error) {
	r := NewReader(s)
	t := r.Text()
	return t, r.Rest(), r.Err()
}
