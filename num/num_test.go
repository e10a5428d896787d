package num_test

import (
	"encoding/binary"
	"strings"
	"sync"
	"testing"

	"packhorse/api"
	"packhorse/num"
)

// The face, as it is given.
var (
	_ func(int) (string, error)            = num.Put
	_ func(string) (int, string, error)    = num.Get
	_ func(string) (string, error)         = num.PutText
	_ func(string) (string, string, error) = num.GetText
)

// edges are the numbers around each length that a number may have as bytes, and around the bounds.
func edges() []int {
	l := []int{0, 1, 2, 300, api.MaxText, api.MaxNum - 1, api.MaxNum}
	for bits := 1; bits < 40; bits++ {
		l = append(l, 1<<bits-1, 1<<bits, 1<<bits+1)
	}
	return l
}

func put(t *testing.T, n int) string {
	t.Helper()
	s, err := num.Put(n)
	if err != nil {
		t.Fatalf("Put(%d): %v", n, err)
	}
	return s
}

func wantGet(t *testing.T, s string, n int, rest string, want error) {
	t.Helper()
	if k, r, err := num.Get(s); k != n || r != rest || err != want {
		t.Errorf("Get(%q) = %d %q %v, want %d %q %v", s, k, r, err, n, rest, want)
	}
}

func wantGetText(t *testing.T, s, text, rest string, want error) {
	t.Helper()
	if a, r, err := num.GetText(s); a != text || r != rest || err != want {
		t.Errorf("GetText of %d bytes = %d bytes, %q, %v, want %d bytes, %q, %v", len(s), len(a), r, err, len(text), rest, want)
	}
}

// P10: the bytes of a number; encoding/binary has the same form, and is not ours.
func TestPut(t *testing.T) {
	if s := put(t, 300); s != "\xac\x02" {
		t.Errorf("300: %q", s)
	}
	for _, n := range edges() {
		if s, want := put(t, n), string(binary.AppendUvarint(nil, uint64(n))); s != want {
			t.Errorf("Put(%d) = %q, want %q", n, s, want)
		}
	}
	for n := range 40000 {
		if s, want := put(t, n), string(binary.AppendUvarint(nil, uint64(n))); s != want {
			t.Fatalf("Put(%d) = %q, want %q", n, s, want)
		}
	}
}

// P10, P3: wrong numbers, a bare error, and nothing beside it.
func TestPutBound(t *testing.T) {
	for _, n := range []int{-1, -127, -128, -300, -1 << 63, api.MaxNum + 1, api.MaxNum + 128, 1 << 41, 1 << 42, 1<<63 - 1} {
		if s, err := num.Put(n); s != "" || err != api.ErrBound {
			t.Errorf("Put(%d) = %q %v", n, s, err)
		}
	}
}

// P10: wrong bytes.
func TestGetErrors(t *testing.T) {
	for _, c := range []struct {
		s    string
		want error
	}{
		{"", api.ErrText},
		{"\x80", api.ErrText},
		{"\xff\xff\xff\xff\xff", api.ErrText},
		{"\xff\xff\xff\xff\xff\xff", api.ErrText},
		{"\x80\x00", api.ErrText},
		{"\xac\x82\x00", api.ErrText},
		{"\x80\x80\x80\x80\x80\x00", api.ErrText},
		{"\xff\xff\xff\xff\xff\x00", api.ErrText},
		{"\x80\x80\x80\x80\x80\x80\x00", api.ErrText},
		{"\x80\x80\x80\x80\x80\x80\x01", api.ErrText},
		{"\xff\xff\xff\xff\xff\xff\xff\xff\xff\x01", api.ErrText},
		{"\x81\x80\x80\x80\x80\x20", api.ErrBound},
		{"\x80\x80\x80\x80\x80\x21", api.ErrBound},
		{"\x80\x80\x80\x80\x80\x40", api.ErrBound},
		{"\xff\xff\xff\xff\xff\x7f", api.ErrBound},
	} {
		wantGet(t, c.s, 0, "", c.want)
		if c.want == api.ErrBound || c.s != "" && c.s[len(c.s)-1] < 128 { // what stands behind does not mend it
			wantGet(t, c.s+"\x01abc", 0, "", c.want)
		}
	}
	wantGet(t, "\x00", 0, "", nil)
	wantGet(t, "\x00\x00", 0, "\x00", nil)
	wantGet(t, "\xff\xff\xff\xff\xff\x1f", api.MaxNum-1, "", nil)
	wantGet(t, "\x80\x80\x80\x80\x80\x20", api.MaxNum, "", nil)
}

// asked is what P10 says of Get, with the last byte looked for first.
func asked(s string) (int, string, error) {
	last := strings.IndexFunc(s, func(r rune) bool { return r < 128 })
	if last < 0 || last >= 6 {
		return 0, "", api.ErrText
	}
	if last > 0 && s[last] == 0 {
		return 0, "", api.ErrText
	}
	n := 0
	for i := last; i >= 0; i-- {
		n = n*128 + int(s[i]&127)
	}
	if n > api.MaxNum {
		return 0, "", api.ErrBound
	}
	return n, s[last+1:], nil
}

// P10, P1: all short texts of bytes that lie at an edge.
func TestGetAll(t *testing.T) {
	const bytes = "\x00\x01\x20\x21\x7f\x80\xff"
	level := []string{""}
	for length := 0; length <= 7; length++ {
		var longer []string
		for _, s := range level {
			n, rest, want := asked(s)
			wantGet(t, s, n, rest, want)
			for i := 0; i < len(bytes) && length < 7; i++ {
				longer = append(longer, s+bytes[i:i+1])
			}
		}
		if t.Failed() {
			return
		}
		level = longer
	}
}

// P12: whatever stands behind it; and cut short it is none.
func TestNumberIsReadAsWritten(t *testing.T) {
	for _, n := range edges() {
		s := put(t, n)
		wantGet(t, s, n, "", nil)
		for b := range 256 {
			rest := string([]byte{byte(b)})
			wantGet(t, s+rest, n, rest, nil)
			wantGet(t, s+rest+s, n, rest+s, nil)
		}
		for cut := range len(s) {
			wantGet(t, s[:cut], 0, "", api.ErrText)
		}
	}
}

func texts() []string {
	return []string{"", "x", "\x00", "\x00\xff", "\x80\x80", "gr\u00fc\u00df", strings.Repeat("a", 127), strings.Repeat("b", 128), strings.Repeat("c", 16383), strings.Repeat("d", 16384), strings.Repeat("e", api.MaxText)}
}

// P11: how many bytes, and they; read as written, whatever stands behind.
func TestPutText(t *testing.T) {
	for _, s := range texts() {
		a, err := num.PutText(s)
		if want := put(t, len(s)) + s; a != want || err != nil {
			t.Errorf("PutText of %d bytes: %d bytes, %v", len(s), len(a), err)
		}
		for _, rest := range []string{"", "\x00", "\x7f", "\x80", "\xff", "more"} {
			wantGetText(t, a+rest, s, rest, nil)
		}
		wantGetText(t, a[:len(a)-1], "", "", api.ErrText)
	}
	for _, n := range []int{api.MaxText + 1, api.MaxText + 128, 2 * api.MaxText} {
		if a, err := num.PutText(strings.Repeat("x", n)); a != "" || err != api.ErrBound {
			t.Errorf("PutText of %d bytes: %d bytes, %v", n, len(a), err)
		}
	}
}

// P11: wrong texts; too many is told ahead of too few.
func TestGetTextErrors(t *testing.T) {
	long := strings.Repeat("x", api.MaxText+10)
	wantGetText(t, "", "", "", api.ErrText)
	wantGetText(t, "\x80", "", "", api.ErrText)
	wantGetText(t, "\x81\x00x", "", "", api.ErrText)
	wantGetText(t, "\x80\x80\x80\x80\x80\x80\x01", "", "", api.ErrText)
	wantGetText(t, "\x80\x80\x80\x80\x80\x21", "", "", api.ErrBound)
	wantGetText(t, "\x01", "", "", api.ErrText)
	wantGetText(t, "\x03ab", "", "", api.ErrText)
	wantGetText(t, put(t, api.MaxText)+long[:api.MaxText-1], "", "", api.ErrText)
	wantGetText(t, put(t, api.MaxText+1), "", "", api.ErrBound)
	wantGetText(t, put(t, api.MaxText+1)+long, "", "", api.ErrBound)
	wantGetText(t, put(t, api.MaxNum), "", "", api.ErrBound)
}

// P3: what lies behind a text's length in its memory is not read.
func TestNothingBehindIsRead(t *testing.T) {
	whole := "\x80\x01\x03abc"
	wantGet(t, whole[:1], 0, "", api.ErrText)
	wantGetText(t, whole[2:5], "", "", api.ErrText)
}

// P2: many at once, and again, answer the same.
func TestSideBySide(t *testing.T) {
	var wg sync.WaitGroup
	for range 8 {
		wg.Go(func() {
			for _, n := range edges() {
				s, err := num.Put(n)
				if k, rest, err2 := num.Get(s + "x"); k != n || rest != "x" || err != nil || err2 != nil {
					t.Errorf("%d %d %q %v %v", n, k, rest, err, err2)
				}
				num.Put(-1)
				num.Get("\x80")
			}
		})
	}
	wg.Wait()
}

// P1, P3, P10, P11: any bytes.
func FuzzGet(f *testing.F) {
	for _, s := range []string{"", "\x00", "\x80", "\x80\x00", "\xac\x02x", "\x03abcd", "\x80\x80\x80\x80\x80\x20", "\xff\xff\xff\xff\xff\xff\xff"} {
		f.Add(s)
	}
	f.Fuzz(func(t *testing.T, s string) {
		n, rest, want := asked(s)
		wantGet(t, s, n, rest, want)
		if want == nil && put(t, n)+rest != s {
			t.Errorf("%q is not the one way to write %d", s, n)
		}
		if a, rest, err := num.GetText(s); err == nil && put(t, len(a))+a+rest != s || err != nil && (a != "" || rest != "") {
			t.Errorf("GetText(%q) = %q %q %v", s, a, rest, err)
		}
	})
}
