package num_test

import (
	"strings"
	"testing"

	"packhorse/api"
	"packhorse/num"
)

// What is written one behind the other is read in that order.
func TestStream(t *testing.T) {
	w := num.NewWriter()
	for _, n := range edges() {
		w.Num(n)
		w.Text(strings.Repeat("x", n%200))
	}
	s, err := w.Done()
	if err != nil {
		t.Fatal(err)
	}
	r := num.NewReader(s + "rest")
	for _, n := range edges() {
		if k := r.Num(); k != n {
			t.Errorf("%d, want %d", k, n)
		}
		if a := r.Text(); a != strings.Repeat("x", n%200) {
			t.Errorf("%d bytes, want %d", len(a), n%200)
		}
	}
	if r.Rest() != "rest" || r.Err() != nil {
		t.Errorf("%q %v", r.Rest(), r.Err())
	}
}

// A byte is written as it is, whatever it is, and read so.
func TestByte(t *testing.T) {
	for b := range 256 {
		w := num.NewWriter()
		w.Num(300)
		w.Byte(byte(b))
		w.Text("x")
		s, err := w.Done()
		if want := "\xac\x02" + string([]byte{byte(b)}) + "\x01x"; s != want || err != nil {
			t.Errorf("%d: %q %v, want %q", b, s, err, want)
		}
		r := num.NewReader(s)
		if n, back, a := r.Num(), r.Byte(), r.Text(); n != 300 || back != byte(b) || a != "x" || r.End() != nil {
			t.Errorf("%d: %d %d %q %v", b, n, back, a, r.Err())
		}
	}
	r := num.NewReader("a")
	if r.Byte() != 'a' || r.Err() != nil || r.Byte() != 0 || r.Err() != api.ErrText {
		t.Error(r.Err())
	}
}

// P4: what a writer answered does not change with what it writes later.
func TestDoneIsNew(t *testing.T) {
	w := num.NewWriter()
	if s, err := w.Done(); s != "" || err != nil {
		t.Errorf("%q %v", s, err)
	}
	w.Num(1)
	one, _ := w.Done()
	w.Num(2)
	if two, err := w.Done(); one != "\x01" || two != "\x01\x02" || err != nil {
		t.Errorf("%q %q %v", one, two, err)
	}
}

// 'Ways': the first error of a writer stays.
func TestWriterErrorStays(t *testing.T) {
	for _, wrong := range []func(*num.Writer){
		func(w *num.Writer) { w.Num(-1) },
		func(w *num.Writer) { w.Num(api.MaxNum + 1) },
		func(w *num.Writer) { w.Text(strings.Repeat("x", api.MaxText+1)) },
	} {
		w := num.NewWriter()
		w.Num(1)
		wrong(w)
		w.Num(2)
		w.Byte(3)
		w.Text("abc")
		if s, err := w.Done(); s != "" || err != api.ErrBound {
			t.Errorf("%q %v", s, err)
		}
	}
}

// 'Ways': the first error of a reader stays, and nothing is read behind it.
func TestReaderErrorStays(t *testing.T) {
	for s, want := range map[string]error{
		"\x81\x00\x02ab":                   api.ErrText,
		"\x80\x80\x80\x80\x80\x21\x81\x00": api.ErrBound,
		"\xff\x7f\x01":                     nil,
	} {
		r := num.NewReader(s)
		if r.Num(); want == nil {
			r.Text()
			r.Text()
			want = api.ErrText
		}
		if r.Err() != want || r.Num() != 0 || r.Byte() != 0 || r.Text() != "" || r.Rest() != "" || r.Err() != want {
			t.Errorf("%q: %q %v, want %v", s, r.Rest(), r.Err(), want)
		}
	}
	r := num.NewReader("\xa1\x9c\x01" + "\x80")
	if r.Text() != "" || r.Err() != api.ErrBound || r.Num() != 0 || r.Err() != api.ErrBound {
		t.Error(r.Err())
	}
}

// A caller's own error stays like one of the reader's, unless there was one ahead of it.
func TestFail(t *testing.T) {
	r := num.NewReader("\x01\x02")
	r.Num()
	r.Fail(nil)
	if r.Rest() != "\x02" || r.Err() != nil {
		t.Errorf("%q %v", r.Rest(), r.Err())
	}
	r.Fail(api.ErrKind)
	r.Fail(api.ErrShape)
	if r.Num() != 0 || r.Rest() != "" || r.Err() != api.ErrKind || r.End() != api.ErrKind {
		t.Errorf("%q %v", r.Rest(), r.Err())
	}
	r = num.NewReader("\x80\x00")
	r.Num()
	r.Fail(api.ErrKind)
	if r.Err() != api.ErrText {
		t.Error(r.Err())
	}
}

// At the end, nothing may be left.
func TestEnd(t *testing.T) {
	for s, want := range map[string]error{
		"\x01":                     nil,
		"\x01x":                    api.ErrText,
		"":                         api.ErrText,
		"\x81\x80\x80\x80\x80\x20": api.ErrBound,
	} {
		r := num.NewReader(s)
		r.Num()
		if err := r.End(); err != want || r.Err() != want {
			t.Errorf("%q: %v %v, want %v", s, err, r.Err(), want)
		}
	}
}
