package frame

import (
	"packhorse/api"
	"packhorse/num"
	"packhorse/sum"
)

// write all of a frame that stands ahead of its seal.
func write(f Frame) (string, error) {
	w := num.NewWriter()
	w.Byte(f.Kind)
	w.Num(f.Epoch)
	w.Num(f.Seq)
	w.Text(f.Data)
	return w.Done()
}

// read what write wrote; whether there may be such a frame is not asked here.
func read(s string) (Frame, error) {
	r := num.NewReader(s)
	f := Frame{Kind: r.Byte(), Epoch: r.Num(), Seq: r.Num(), Data: r.Text()}
	return f, r.End()
}

// sealBytes is what a sum takes: always as many, so that it is found from a frame's end, ahead of reading anything.
const sealBytes = 4

// seal is the sum of a text, as bytes.
func seal(s string) string {
	c := sum.Sum(s)
	b := make([]byte, sealBytes)
	for i := range b {
		b[i] = byte(c >> (8 * i))
	}
	return string(b)
}

// unsealed is what stands ahead of the seal, if it is the right one.
func unsealed(s string) (string, error) {
	n := len(s) - sealBytes
	if n < 0 {
		return "", api.ErrText
	}
	if seal(s[:n]) != s[n:] {
		return "", api.ErrSum
	}
	return s[:n], nil
}
