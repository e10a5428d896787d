package basis_test

import (
	"fmt"
	"math"
	"strings"
	"testing"

	"packhorse/api"
	"packhorse/basis"
)

// The face, as it is given.
var (
	_ func(basis.Mark) (string, error)                = basis.Text
	_ func(string) (basis.Mark, error)                = basis.Read
	_ func([]basis.Mark, string, string) int          = basis.Far
	_ func(string, string, int) ([]basis.Mark, error) = basis.Marks
	_                                                 = basis.Mark(struct {
		Name string
		N    int
		Sum  uint32
	}{})
)

func mark(name string, n int, sum uint32) basis.Mark {
	return basis.Mark{Name: name, N: n, Sum: sum}
}

func wantText(t *testing.T, m basis.Mark, want string) {
	t.Helper()
	if s, err := basis.Text(m); s != want || err != nil {
		t.Errorf("text of %v: %q, %v, want %q", m, s, err, want)
	}
}

// wantNoText: the error is bare, since the chapter tells no place.
func wantNoText(t *testing.T, m basis.Mark, want error) {
	t.Helper()
	if s, err := basis.Text(m); s != "" || err != want {
		t.Errorf("text of %v: %q, %v, want %v", m, s, err, want)
	}
}

func wantRead(t *testing.T, s string, want basis.Mark) {
	t.Helper()
	if m, err := basis.Read(s); m != want || err != nil {
		t.Errorf("read %q: %v, %v, want %v", s, m, err, want)
	}
}

func wantNoRead(t *testing.T, s string, want error) {
	t.Helper()
	if m, err := basis.Read(s); m != (basis.Mark{}) || err != want {
		t.Errorf("read %.80q: %v, %v, want %v", s, m, err, want)
	}
}

// P130: ordinary marks, and the edges of names, bytes and sums.
func TestText(t *testing.T) {
	for want, m := range map[string]basis.Mark{
		"a 9 3421780262":               mark("a", 9, 0xCBF43926),
		"b.txt 10 7":                   mark("b.txt", 10, 7),
		"a 0 0":                        mark("a", 0, 0),
		"a 0 1":                        mark("a", 0, 1),
		"- 1 0":                        mark("-", 1, 0),
		". 1 10":                       mark(".", 1, 10),
		"0 0 0":                        mark("0", 0, 0),
		"01 3999 100":                  mark("01", 3999, 100),
		"abcdefghijkl 4000 4294967295": mark("abcdefghijkl", api.MaxFile, math.MaxUint32),
		"z 4000 4294967294":            mark("z", 4000, math.MaxUint32-1),
		"z 100 2147483647":             mark("z", 100, math.MaxInt32),
		"z 100 2147483648":             mark("z", 100, 1<<31),
		"z 1000 1000000000":            mark("z", 1000, 1e9),
	} {
		wantText(t, m, want)
		wantRead(t, want, m)
	}
}

// P130: each count of bytes, and sums of each length, come back as they were.
func TestTextOfEach(t *testing.T) {
	for n := range api.MaxFile + 1 {
		m := mark("a.b-1", n, uint32(n)*2654435761)
		s, err := basis.Text(m)
		if err != nil || s != fmt.Sprintf("a.b-1 %d %d", m.N, m.Sum) {
			t.Fatal(m, s, err)
		}
		wantRead(t, s, m)
	}
	for bit := range 32 {
		for _, sum := range []uint32{1 << bit, 1<<bit - 1, math.MaxUint32 << bit} {
			m := mark("a", 1, sum)
			wantText(t, m, fmt.Sprintf("a 1 %d", sum))
			wantRead(t, fmt.Sprintf("a 1 %d", sum), m)
		}
	}
}

// wrongNames are all that P70 does not take as one, but for those with a blank.
func wrongNames() []string {
	return []string{"", "A", "a_", "a/b", "ä", "a\x00", "a\n", "a\t", "\xff", "~", "abcdefghijklm", strings.Repeat("a", 10000)}
}

// P130: the name ahead of how many bytes.
func TestTextWrong(t *testing.T) {
	wrong := []int{-1, -4000, math.MinInt, api.MaxFile + 1, 1 << 32, math.MaxInt}
	for _, n := range wrong {
		wantNoText(t, mark("a", n, 0), api.ErrBound)
		wantNoText(t, mark("a", n, math.MaxUint32), api.ErrBound)
	}
	for _, name := range append(wrongNames(), " ", "a ", " a", "a b") {
		wantNoText(t, mark(name, 1, 1), api.ErrName)
		for _, n := range wrong {
			wantNoText(t, mark(name, n, 1), api.ErrName)
		}
	}
}

// wrongNumbers are none in digits alone, without needless zeros, of at most ten digits.
func wrongNumbers() []string {
	return []string{
		"", "x", "-", "+1", "-1", "-0", "00", "01", "007", "1.", "1.0", "0x1", "1e3", "1_0", "1x", "x1", "1\n", "\t1", "1\x00", "١", "\xff",
		"12345678901", "10000000000", "00000000001", "-999999999999", "18446744073709551617", strings.Repeat("9", 10000),
	}
}

// P130: what is wrong with a number, or with how many words there are, is told ahead of what is wrong with the name, and with how great the numbers are.
func TestReadNoText(t *testing.T) {
	for _, x := range wrongNumbers() {
		for _, name := range []string{"a", "A", ""} {
			for _, y := range []string{"1", "4001", "4294967296"} {
				wantNoRead(t, name+" "+x+" "+y, api.ErrText)
				wantNoRead(t, name+" "+y+" "+x, api.ErrText)
			}
		}
	}
	for _, s := range []string{
		"", " ", "  ", "   ", "a", "a ", "a  ", "a 1", "a 1 ", " a 1", "1 1", "a1 1", "A", "A 1", "a 4001",
		"a 1 2 3", "a b 1 2", "a 1 2 ", "a 1  2", "a  1 2", " a 1 2", "  1 2", "a 1 2\n", "a\t1\t2", "a 1\t2", "a 1 2 x", "A 1 2 3", "a 4001 1 1",
		"a 1 2" + strings.Repeat(" ", 10000), strings.Repeat("a 1 2 ", 10000), strings.Repeat(" ", 100000), strings.Repeat("a", 100000),
	} {
		wantNoRead(t, s, api.ErrText)
	}
}

// P130: the name ahead of how great the numbers are.
func TestReadWrong(t *testing.T) {
	great := []string{"4001 1", "4294967296 0", "9999999999 0", "1 4294967296", "1 9999999999", "0 4294967297", "4001 4294967296"}
	for _, n := range great {
		wantNoRead(t, "a "+n, api.ErrBound)
	}
	for _, name := range wrongNames() {
		for _, n := range append(great, "0 0", "4000 4294967295") {
			wantNoRead(t, name+" "+n, api.ErrName)
		}
	}
}
