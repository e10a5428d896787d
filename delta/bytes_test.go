package delta_test

import (
	"slices"
	"strings"
	"testing"

	"packhorse/api"
	"packhorse/delta"
	"packhorse/num"
)

// spelt are numbers as bytes, one behind the other.
func spelt(l ...int) string {
	all := ""
	for _, n := range l {
		s, err := num.Put(n)
		if err != nil {
			panic(err)
		}
		all += s
	}
	return all
}

// P51: the bytes.
func TestText(t *testing.T) {
	for _, c := range []struct {
		ops  []api.Op
		want string
	}{
		{nil, "\x00"},
		{[]api.Op{}, "\x00"},
		{[]api.Op{cp(0, 1)}, "\x01\x00\x00\x01"},
		{[]api.Op{data("xy")}, "\x01\x01\x02xy"},
		{[]api.Op{data("x"), cp(0, 2)}, "\x02\x01\x01x\x00\x00\x02"},
		{[]api.Op{cp(300, 128), data("\x00")}, "\x02\x00\xac\x02\x80\x01\x01\x01\x00"},
		{[]api.Op{cp(api.MaxFile, api.MaxFile)}, "\x01\x00\xa0\x1f\xa0\x1f"},
		{[]api.Op{data("a"), data("b"), cp(1, 1), cp(2, 1)}, "\x04\x01\x01a\x01\x01b\x00\x01\x01\x00\x02\x01"}, // as they stand: nothing is put together
	} {
		if s, err := delta.Text(c.ops); s != c.want || err != nil {
			t.Errorf("%v: %q %v, want %q", c.ops, s, err, c.want)
		}
		if ops, err := delta.Read(c.want); err != nil || !slices.Equal(ops, c.ops) {
			t.Errorf("%q: %v %v, want %v", c.want, ops, err, c.ops)
		}
	}
}

// P51, P52: the bytes spelt out by num, and read as they were written.
func TestReadAsWritten(t *testing.T) {
	lists := [][]api.Op{right()}
	for _, op := range right() {
		lists = append(lists, []api.Op{op}, []api.Op{op, op}, []api.Op{cp(5, 5), op, data("y")})
	}
	for _, p := range pairs() {
		for _, size := range sizes() {
			ops, err := delta.Make(signed(t, p[0], size), size, p[1])
			if err != nil {
				t.Fatal(err)
			}
			lists = append(lists, ops)
		}
	}
	for i, ops := range lists {
		want := spelt(len(ops))
		for _, op := range ops {
			if op.Kind == "copy" {
				want += spelt(0, op.At, op.N)
			} else {
				want += spelt(1, len(op.Data)) + op.Data
			}
		}
		s, err := delta.Text(ops)
		if s != want || err != nil {
			t.Errorf("%d: %d bytes, %v", i, len(s), err)
		}
		if back, err := delta.Read(s); err != nil || !slices.Equal(back, ops) {
			t.Errorf("%d: %v %v", i, back, err)
		}
	}
}

// P51: MaxText bytes may be written and read, one more may not.
func TestMostBytes(t *testing.T) {
	four := slices.Repeat([]api.Op{data(xs(api.MaxFile))}, 4)
	const left = api.MaxText - 1 - 4*(api.MaxFile+3) - 3 // of a fifth op's data
	most := append(slices.Clone(four), data(xs(left)))
	s, err := delta.Text(most)
	if len(s) != api.MaxText || err != nil {
		t.Fatal(len(s), err)
	}
	if back, err := delta.Read(s); err != nil || !slices.Equal(back, most) {
		t.Error(len(back), err)
	}
	for _, l := range [][]api.Op{
		append(slices.Clone(four), data(xs(left+1))),
		slices.Repeat([]api.Op{data(xs(api.MaxFile))}, 100),
		slices.Repeat([]api.Op{cp(0, 1)}, api.MaxText),
	} {
		if s, err := delta.Text(l); s != "" || err != api.ErrBound {
			t.Errorf("%d ops: %d bytes, %v", len(l), len(s), err)
		}
	}
	above := spelt(5) + strings.Repeat(spelt(1, api.MaxFile)+xs(api.MaxFile), 4) + spelt(1, left+1) + xs(left+1)
	for _, s := range []string{above, s + "x", xs(api.MaxText + 1), spelt(0) + xs(api.MaxText), strings.Repeat("\x80", api.MaxText+1)} {
		if ops, err := delta.Read(s); len(ops) != 0 || err != api.ErrBound {
			t.Errorf("%d bytes: %d ops, %v", len(s), len(ops), err)
		}
	}
	for _, s := range []string{xs(api.MaxText), spelt(0) + xs(api.MaxText-1), strings.Repeat("\x80", api.MaxText)} {
		if ops, err := delta.Read(s); len(ops) != 0 || err != api.ErrText {
			t.Errorf("%d bytes: %d ops, %v", len(s), len(ops), err)
		}
	}
}

// P51: what is not just a delta, in the order in which it is told, and always bare.
func TestReadWrong(t *testing.T) {
	const above = "\x81\x80\x80\x80\x80\x20" // MaxNum and 1
	for s, want := range map[string]error{
		"":                               api.ErrText,
		"\x80":                           api.ErrText,
		"\x80\x00":                       api.ErrText,
		spelt(1):                         api.ErrText,
		spelt(0) + "x":                   api.ErrText,
		spelt(0, 0, 0, 1):                api.ErrText,
		spelt(1, 2):                      api.ErrText,
		spelt(1, 2, 0, 1):                api.ErrText,
		spelt(1, 127, 0, 1):              api.ErrText,
		spelt(1, 256, 0, 1):              api.ErrText,
		spelt(1, 257, 1) + "x":           api.ErrText,
		spelt(1, api.MaxNum, 0, 1):       api.ErrText,
		spelt(1, 0):                      api.ErrText,
		spelt(1, 0, 1):                   api.ErrText,
		spelt(1, 0, 1) + "\x80\x00":      api.ErrText,
		spelt(1, 1):                      api.ErrText,
		spelt(1, 1, 2) + "x":             api.ErrText,
		spelt(1, 1, 1) + "xy":            api.ErrText,
		spelt(1, 0, 0, 1) + "\x00":       api.ErrText,
		spelt(2, 0, 0, 1):                api.ErrText,
		spelt(2, 0, 0, 1, 3):             api.ErrText,
		spelt(api.MaxNum):                api.ErrText, // far more ops than there are
		spelt(api.MaxNum, 0, 0, 1):       api.ErrText,
		spelt(1, 1, api.MaxText) + "x":   api.ErrText,
		spelt(1) + "\x80\x00\x00\x01":    api.ErrText,
		spelt(1) + "\x81\x00\x01x":       api.ErrText,
		spelt(1, 0) + "\x80\x80\x00\x01": api.ErrText,

		above:                        api.ErrBound,
		spelt(1) + above:             api.ErrBound,
		spelt(1, 0) + above:          api.ErrBound,
		spelt(1, 0, 0) + above:       api.ErrBound,
		spelt(1, 1) + above:          api.ErrBound,
		spelt(1, 1, api.MaxText+1):   api.ErrBound,
		spelt(1, 1, api.MaxNum):      api.ErrBound,
		above + "\x80":               api.ErrBound, // the first error ends it
		spelt(2, 0) + above + "\x80": api.ErrBound,
		spelt(2, 2) + above:          api.ErrText,

		spelt(1, 0, 0, 0):                              api.ErrBound,
		spelt(1, 0, 0, api.MaxFile+1):                  api.ErrBound,
		spelt(1, 0, api.MaxFile+1, 1):                  api.ErrBound,
		spelt(1, 0, api.MaxNum, api.MaxNum):            api.ErrBound,
		spelt(1, 1, 0):                                 api.ErrBound,
		spelt(1, 1, api.MaxFile+1) + xs(4001):          api.ErrBound,
		spelt(3, 0, 0, 1, 0, 1, 0, 1, 1) + "x":         api.ErrBound,
		spelt(2, 0, 0, 1, 1, 0):                        api.ErrBound,
		spelt(1, 0, 0, 0) + "x":                        api.ErrText, // what is no delta's text is not checked as one
		spelt(2, 0, 0, 0):                              api.ErrText,
		spelt(2, 1, 0, 2):                              api.ErrText,
		spelt(2, 1, api.MaxFile+1) + xs(4001) + "\x01": api.ErrText,
	} {
		if ops, err := delta.Read(s); len(ops) != 0 || err != want {
			t.Errorf("%.40q: %v %v, want %v", s, ops, err, want)
		}
	}
}

// some ops, of each kind and length of numbers.
func some() []api.Op {
	return []api.Op{data("abc"), cp(0, 2), cp(300, 1), data("\x80\x00"), cp(4, 200), data(xs(130))}
}

// P51: a delta that ends early is none; P3: nor is anything behind a text's length read.
func TestReadCut(t *testing.T) {
	s, err := delta.Text(some())
	if err != nil {
		t.Fatal(err)
	}
	for i := range len(s) {
		if ops, err := delta.Read(s[:i]); len(ops) != 0 || err != api.ErrText {
			t.Errorf("%d: %v %v", i, ops, err)
		}
	}
}

// P51: each delta is written in one way: with any byte turned, it is another one or none.
func TestReadTurned(t *testing.T) {
	s, err := delta.Text(some())
	if err != nil {
		t.Fatal(err)
	}
	for i := range len(s) {
		for b := range 256 {
			turned := s[:i] + string([]byte{byte(b)}) + s[i+1:]
			readOneWay(t, turned)
			if back, _ := delta.Read(turned); turned != s && slices.Equal(back, some()) {
				t.Errorf("byte %d as %d: the same", i, b)
			}
		}
	}
}

// readOneWay: what is read is written as it stood; what is not read answers nothing but a bare error.
func readOneWay(t *testing.T, s string) {
	t.Helper()
	ops, err := delta.Read(s)
	if err != nil {
		if len(ops) != 0 || err != api.ErrText && err != api.ErrBound {
			t.Errorf("%q: %v %v", s, ops, err)
		}
		return
	}
	if err := delta.Check(ops); err != nil {
		t.Errorf("%q: %v", s, err)
	}
	if back, err := delta.Text(ops); back != s || err != nil {
		t.Errorf("%q: %q %v", s, back, err)
	}
}

// FuzzRead holds P51 against any bytes.
func FuzzRead(f *testing.F) {
	text, _ := delta.Text(some())
	for _, s := range []string{"", "\x00", text, "\x01\x02", "\x01\x01\x00", "\x01\x00\x00\x00", "\x80\x80\x80\x80\x80\x20\x00\x00\x01"} {
		f.Add(s)
	}
	f.Fuzz(readOneWay)
}
