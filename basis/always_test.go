package basis_test

import (
	"slices"
	"strconv"
	"strings"
	"testing"

	"packhorse/api"
	"packhorse/basis"
	"packhorse/sum"
)

// chance is a row of numbers from a seed: the same each time.
type chance uint64

func (c *chance) below(n int) int {
	*c = *c*6364136223846793005 + 1442695040888963407
	return int(uint64(*c) >> 33 % uint64(n))
}

// text of n bytes, of which many are alike.
func (c *chance) text(n int) string {
	b := make([]byte, n)
	for k := range b {
		b[k] = byte(c.below(3))
	}
	return string(b)
}

// P132: of a file's own marks the last one holds; a file that is alike up to there is right as far.
func TestAlways(t *testing.T) {
	c := chance(132)
	for range 300 {
		data, step := c.text(c.below(300)), 1+c.below(40)
		l, err := basis.Marks("a", data, step)
		if err != nil {
			t.Fatal(err)
		}
		wantFar(t, l, "a", data, len(data)/step*step)
		for k, m := range l {
			if m.Name != "a" || m.N != (k+1)*step {
				t.Fatal(k, m)
			}
			wantAlike(t, l, m.N, data, &c)
		}
	}
}

// wantAlike: files that are alike up to n, and not behind it, are right up to n, whether or not the marks went over a text.
func wantAlike(t *testing.T, l []basis.Mark, n int, data string, c *chance) {
	t.Helper()
	l = overTexts(t, l)
	wantFar(t, l, "a", data[:n], n)
	wantFar(t, l, "a", data[:n]+"X", n)
	wantFar(t, l, "a", data[:n]+"X"+c.text(c.below(100)), n)
	if n < len(data) {
		wantFar(t, l, "a", data[:n]+"X"+data[n+1:], n)
	}
}

func overTexts(t *testing.T, l []basis.Mark) []basis.Mark {
	t.Helper()
	var out []basis.Mark
	for _, m := range l {
		s, err := basis.Text(m)
		if err != nil {
			t.Fatal(m, err)
		}
		m, err = basis.Read(s)
		if err != nil {
			t.Fatal(s, err)
		}
		out = append(out, m)
	}
	return out
}

// P132: a file of as many bytes as one may have.
func TestAlwaysGreatest(t *testing.T) {
	c := chance(1)
	data := c.text(api.MaxFile)
	for _, step := range []int{1, 7, 64, 2000, 2001, 3999, api.MaxFile} {
		l, err := basis.Marks("a", data, step)
		if err != nil {
			t.Fatal(err)
		}
		wantFar(t, l, "a", data, api.MaxFile/step*step)
		wantFar(t, l, "a", data[:api.MaxFile-1]+"X", (api.MaxFile-1)/step*step)
		wantFar(t, l, "a", "X"+data[1:], 0)
	}
}

// far is P131 word by word: each mark for itself.
func far(l []basis.Mark, name, data string) int {
	greatest := 0
	for _, m := range l {
		there := m.N >= 0 && m.N <= len(data)
		if m.Name == name && there && sum.Sum(data[:m.N]) == m.Sum && m.N > greatest {
			greatest = m.N
		}
	}
	return greatest
}

// marksFrom are some marks as bytes may tell them: of names, bytes and sums that may fit the data, or not.
func marksFrom(raw, data string) []basis.Mark {
	var l []basis.Mark
	for ; len(raw) >= 3; raw = raw[3:] {
		m := mark(string("ab"[raw[0]%2]), int(raw[1])-2, uint32(raw[2]))
		if raw[2] < 200 && m.N >= 0 && m.N <= len(data) {
			m.Sum = sum.Sum(data[:m.N])
		}
		l = append(l, m)
	}
	return l
}

func FuzzFar(f *testing.F) {
	f.Add("abcdef", "abXdef", "\x00\x05\x00\x01\x06\x00\x00\x04\x00", "a")
	f.Add("", "", "", "")
	f.Add("abc", "abc", "\x00\x05\xff\x00\x00\x00\x00\x01\x00", "b")
	f.Fuzz(func(t *testing.T, data, other, raw, name string) {
		l := marksFrom(raw, data)
		before := slices.Clone(l)
		for _, name := range []string{"a", "b", name} {
			wantFar(t, l, name, data, far(l, name, data))
			wantFar(t, l, name, other, far(l, name, other))
		}
		if !slices.Equal(l, before) {
			t.Error("marks were changed")
		}
	})
}

func FuzzMarks(f *testing.F) {
	f.Add("a", "abcdef", 2)
	f.Add("", "", 0)
	f.Add("A", strings.Repeat("x", 4001), -1)
	f.Fuzz(func(t *testing.T, name, data string, step int) {
		switch {
		case !isName(name):
			wantNoMarks(t, name, data, step, api.ErrName)
		case len(data) > 4000 || step < 1 || step > 4000:
			wantNoMarks(t, name, data, step, api.ErrBound)
		default:
			l := spelt(name, data, step)
			wantMarks(t, name, data, step, l...)
			wantFar(t, l, name, data, len(data)/step*step)
		}
	})
}

func isName(s string) bool {
	return s != "" && len(s) <= 12 && strings.Trim(s, "abcdefghijklmnopqrstuvwxyz0123456789.-") == ""
}

// isNumber of digits alone, without needless zeros, of at most ten digits.
func isNumber(s string) bool {
	return s != "" && len(s) <= 10 && strings.Trim(s, "0123456789") == "" && (s == "0" || s[0] != '0')
}

// readSpelt is P130's order of errors, word by word.
func readSpelt(s string) (basis.Mark, error) {
	words := strings.Split(s, " ")
	if len(words) != 3 || !isNumber(words[1]) || !isNumber(words[2]) {
		return basis.Mark{}, api.ErrText
	}
	if !isName(words[0]) {
		return basis.Mark{}, api.ErrName
	}
	n, _ := strconv.ParseUint(words[1], 10, 64)
	c, _ := strconv.ParseUint(words[2], 10, 64)
	if n > 4000 || c > 4294967295 {
		return basis.Mark{}, api.ErrBound
	}
	return mark(words[0], int(n), uint32(c)), nil
}

func FuzzRead(f *testing.F) {
	for _, s := range []string{"a 9 3421780262", "", "a 1", "A 01 1", " 1 1", "a 4001 1", "a 1 4294967296", "a 12345678901 1", "a -1 0"} {
		f.Add(s)
	}
	f.Fuzz(func(t *testing.T, s string) {
		want, err := readSpelt(s)
		if err != nil {
			wantNoRead(t, s, err)
			return
		}
		wantRead(t, s, want)
		wantText(t, want, s)
	})
}
