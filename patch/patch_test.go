package patch_test

import (
	"math"
	"slices"
	"strings"
	"sync"
	"testing"

	"packhorse/api"
	"packhorse/delta"
	"packhorse/patch"
	"packhorse/sign"
	"packhorse/sum"
)

// The face, as it is given.
var (
	_ func(string, int, []api.Op) (string, error)              = patch.Apply
	_ func(string, int, []api.Op, int, uint32) (string, error) = patch.Whole
)

func cp(at, n int) api.Op { return api.Op{Kind: "copy", At: at, N: n} }

func data(s string) api.Op { return api.Op{Kind: "data", Data: s} }

func xs(n int) string { return strings.Repeat("x", n) }

// mixed is a text of so many bytes, of which few blocks are alike.
func mixed(n int) string {
	b := make([]byte, n)
	for i := range b {
		b[i] = byte(i * i * 7 >> 3)
	}
	return string(b)
}

func sizes() []int { return []int{1, 2, 3, 4, 7, 32, 63, 64} }

const nowhere = -1

// told: it is this error, as a Fault with its place, or bare.
func told(err error, at int, want error) bool {
	f, placed := err.(*api.Fault)
	if at == nowhere {
		return err == want
	}
	return placed && f.At == at && f.Err == want
}

// blocks of old: the size bytes from size k on, or what is left.
func blocks(old string, size int) []string {
	var l []string
	for old != "" {
		n := min(size, len(old))
		l, old = append(l, old[:n]), old[n:]
	}
	return l
}

// asked is what P60 says of Apply behind delta.Check, word by word: a block at a time.
func asked(old string, size int, ops []api.Op) (string, int, error) {
	l, s := blocks(old, size), ""
	for i, op := range ops {
		s += op.Data
		if op.Kind == "copy" {
			for k := op.At; k < op.At+op.N; k++ {
				if k >= len(l) {
					return "", i, api.ErrNone
				}
				s += l[k]
			}
		}
		if len(s) > api.MaxFile {
			return "", i, api.ErrFull
		}
	}
	return s, nowhere, nil
}

// P60: ordinary deltas, and the edges: no ops, no old file, a last block that is shorter, or whole.
func TestApply(t *testing.T) {
	for _, c := range []struct {
		old  string
		size int
		ops  []api.Op
		want string
	}{
		{"", 1, nil, ""},
		{"", 64, []api.Op{}, ""},
		{"abcdef", 3, nil, ""},
		{"", 3, []api.Op{data("abc")}, "abc"},
		{"abcdef", 3, []api.Op{data("x"), cp(0, 2)}, "xabcdef"},
		{"abcdef", 3, []api.Op{cp(0, 2)}, "abcdef"},
		{"abcdef", 3, []api.Op{cp(0, 1), cp(1, 1)}, "abcdef"},
		{"abcdef", 3, []api.Op{cp(1, 1), cp(0, 1)}, "defabc"},
		{"abcdef", 3, []api.Op{cp(1, 1), data("xy"), data("z"), cp(1, 1)}, "defxyzdef"},
		{"abcdef", 3, []api.Op{cp(0, 2), cp(0, 2), cp(0, 2)}, "abcdefabcdefabcdef"},

		{"abcdefg", 3, []api.Op{cp(2, 1)}, "g"},
		{"abcdefg", 3, []api.Op{cp(2, 1), cp(2, 1), data("x")}, "ggx"},
		{"abcdefg", 3, []api.Op{cp(1, 2), cp(0, 1)}, "defgabc"},
		{"abcdefg", 3, []api.Op{cp(0, 3)}, "abcdefg"},
		{"abcdefgh", 3, []api.Op{cp(2, 1), cp(0, 3)}, "ghabcdefgh"},
		{"ab", 64, []api.Op{cp(0, 1), cp(0, 1)}, "abab"},
		{"abc", 1, []api.Op{cp(2, 1), cp(1, 1), cp(0, 1)}, "cba"},
		{"abc", 1, []api.Op{cp(1, 2)}, "bc"},
		{mixed(64), 64, []api.Op{cp(0, 1)}, mixed(64)},
		{mixed(65), 64, []api.Op{cp(1, 1), cp(0, 1)}, mixed(65)[64:] + mixed(64)},
		{"\x00\xff\x80", 2, []api.Op{cp(1, 1), data("ü\x00")}, "\x80ü\x00"},
	} {
		s, err := patch.Apply(c.old, c.size, c.ops)
		if s != c.want || err != nil {
			t.Errorf("%q by %d, %v: %q %v, want %q", c.old, c.size, c.ops, s, err, c.want)
		}
		s, err = patch.Whole(c.old, c.size, c.ops, len(c.want), sum.Sum(c.want))
		if s != c.want || err != nil {
			t.Errorf("%q by %d, %v: %q %v, want %q whole", c.old, c.size, c.ops, s, err, c.want)
		}
	}
}

// P60: as much as a file may have, and a byte more.
func TestFull(t *testing.T) {
	most := mixed(api.MaxFile)
	for i, c := range []struct {
		old  string
		size int
		ops  []api.Op
		want string
		at   int
	}{
		{most, 64, []api.Op{cp(0, 63)}, most, nowhere},
		{most, 1, []api.Op{cp(0, api.MaxFile)}, most, nowhere},
		{most, 32, []api.Op{cp(0, 125)}, most, nowhere},
		{"", 1, []api.Op{data(most)}, most, nowhere},
		{most, 64, []api.Op{data("y"), cp(0, 62), cp(0, 1)}, "", 2},
		{most, 64, []api.Op{data(xs(32)), cp(0, 62)}, xs(32) + most[:62*64], nowhere},
		{most, 64, []api.Op{data(xs(33)), cp(0, 62)}, "", 1},
		{most, 64, []api.Op{cp(0, 63), data("y")}, "", 1},
		{most, 64, []api.Op{data("y"), cp(0, 63)}, "", 1},
		{most, 64, []api.Op{cp(0, 63), cp(0, 63)}, "", 1},
		{"", 1, []api.Op{data(most), data("y")}, "", 1},
		{"", 1, []api.Op{data(most[:1]), data(most)}, "", 1},
		{"a", 1, slices.Repeat([]api.Op{cp(0, 1)}, api.MaxFile), strings.Repeat("a", api.MaxFile), nowhere},
		{"a", 1, slices.Repeat([]api.Op{cp(0, 1)}, api.MaxFile+1), "", api.MaxFile},
		{most, 64, slices.Repeat([]api.Op{cp(0, 63)}, 100000), "", 1},
	} {
		var want error
		if c.at != nowhere {
			want = api.ErrFull
		}
		for _, call := range calls(c.want) {
			if s, err := call(c.old, c.size, c.ops); s != c.want || !told(err, c.at, want) {
				t.Errorf("%d: %d bytes, %v, want %d, at %d", i, len(s), err, len(c.want), c.at)
			}
		}
	}
}

// calls: Apply, and Whole where it is asked for this text.
func calls(want string) []func(string, int, []api.Op) (string, error) {
	return []func(string, int, []api.Op) (string, error){
		patch.Apply,
		func(old string, size int, ops []api.Op) (string, error) {
			return patch.Whole(old, size, ops, len(want), sum.Sum(want))
		},
	}
}

// P60: every error, ahead of those that are named behind it, and at the first op that has one.
func TestWrong(t *testing.T) {
	most := mixed(api.MaxFile)
	none := cp(99, 1)
	for i, c := range []struct {
		old  string
		size int
		ops  []api.Op
		at   int
		err  error
	}{
		{"abc", 0, nil, nowhere, api.ErrBound},
		{"abc", -1, nil, nowhere, api.ErrBound},
		{"abc", math.MinInt, nil, nowhere, api.ErrBound},
		{"abc", api.MaxBlock + 1, nil, nowhere, api.ErrBound},
		{"abc", math.MaxInt, []api.Op{cp(0, 1)}, nowhere, api.ErrBound},
		{"abc", 0, []api.Op{{}}, nowhere, api.ErrBound}, // the size counts ahead of the ops
		{most + "x", 64, nil, nowhere, api.ErrBound},
		{most + most, 64, []api.Op{{}, none}, nowhere, api.ErrBound}, // and so does the old file

		{"abc", 1, []api.Op{{}}, 0, api.ErrKind},
		{"abc", 1, []api.Op{cp(0, 1), {Kind: "move", N: 1}}, 1, api.ErrKind},
		{"abc", 1, []api.Op{cp(0, 1), {Kind: "copy", N: 1, Data: "x"}}, 1, api.ErrShape},
		{"abc", 1, []api.Op{cp(0, 1), {Kind: "data", N: 1, Data: "x"}}, 1, api.ErrShape},
		{"abc", 1, []api.Op{cp(0, 1), {Kind: "data", At: 1, Data: "x"}}, 1, api.ErrShape},
		{"abc", 1, []api.Op{cp(-1, 1)}, 0, api.ErrBound},
		{"abc", 1, []api.Op{cp(-1, 2)}, 0, api.ErrBound},
		{"abc", 1, []api.Op{cp(0, 0)}, 0, api.ErrBound},
		{"abc", 1, []api.Op{cp(0, -1)}, 0, api.ErrBound},
		{"abc", 1, []api.Op{cp(math.MinInt, math.MaxInt)}, 0, api.ErrBound},
		{"abc", 1, []api.Op{cp(math.MaxInt, math.MaxInt)}, 0, api.ErrBound},
		{"abc", 1, []api.Op{cp(api.MaxFile+1, 1)}, 0, api.ErrBound},
		{"abc", 1, []api.Op{cp(0, api.MaxFile+1)}, 0, api.ErrBound},
		{"abc", 1, []api.Op{data("")}, 0, api.ErrBound},
		{"abc", 1, []api.Op{data(most + "x")}, 0, api.ErrBound},
		{"abc", 1, []api.Op{none, none, {}}, 2, api.ErrKind}, // all that delta.Check tells counts ahead of what there is
		{"abc", 1, []api.Op{data(most), data(most), data("")}, 2, api.ErrBound},

		{"", 1, []api.Op{cp(0, 1)}, 0, api.ErrNone},
		{"", 64, []api.Op{data("x"), cp(0, 1)}, 1, api.ErrNone},
		{"abc", 1, []api.Op{cp(3, 1)}, 0, api.ErrNone},
		{"abc", 1, []api.Op{cp(0, 3), cp(0, 4)}, 1, api.ErrNone},
		{"abc", 1, []api.Op{cp(2, 2)}, 0, api.ErrNone},
		{"abc", 3, []api.Op{cp(1, 1)}, 0, api.ErrNone}, // a last block that is whole has nothing behind it
		{"abcdef", 3, []api.Op{cp(1, 1), cp(2, 1)}, 1, api.ErrNone},
		{"abcdefg", 3, []api.Op{cp(2, 1), cp(3, 1)}, 1, api.ErrNone},
		{"abcdefg", 3, []api.Op{cp(2, 2)}, 0, api.ErrNone},
		{"abc", 64, []api.Op{cp(api.MaxFile, 1)}, 0, api.ErrNone},
		{"abc", 64, []api.Op{cp(0, api.MaxFile)}, 0, api.ErrNone},
		{most, 64, []api.Op{cp(api.MaxFile, api.MaxFile)}, 0, api.ErrNone},
		{most, 1, []api.Op{cp(1, api.MaxFile)}, 0, api.ErrNone},
		{most, 64, []api.Op{cp(0, 64)}, 0, api.ErrNone},
		{most, 64, []api.Op{data("x"), cp(0, 64)}, 1, api.ErrNone}, // of one op ErrNone counts ahead of ErrFull
		{most, 64, []api.Op{cp(0, 63), none}, 1, api.ErrNone},
		{most, 64, []api.Op{none, data(most), data("x")}, 0, api.ErrNone},
		{most, 64, []api.Op{cp(0, 63), data("x"), none}, 1, api.ErrFull}, // of several ops the first one counts
	} {
		for _, call := range calls("") {
			if s, err := call(c.old, c.size, c.ops); s != "" || !told(err, c.at, c.err) {
				t.Errorf("%d: %d bytes, %v, want %v at %d", i, len(s), err, c.err, c.at)
			}
		}
	}
}

// P60: a file that is not the one that was told of.
func TestWhole(t *testing.T) {
	ops := []api.Op{cp(1, 2), data("x")}
	const want = "defgx"
	c := sum.Sum(want)
	for _, x := range []struct {
		old string
		n   int
		c   uint32
	}{
		{"abcdefg", 4, c}, {"abcdefg", 6, c}, {"abcdefg", 0, c}, {"abcdefg", -5, c}, {"abcdefg", math.MaxInt, c}, {"abcdefg", math.MinInt, c}, {"abcdefg", 5 + 1<<32, c},
		{"abcdefg", 5, c + 1}, {"abcdefg", 5, ^c}, {"abcdefg", 5, 0}, {"abcdefg", 5, c ^ 1<<31},
		{"abcdefg", 4, sum.Sum("defg")}, {"abcdefg", 6, 0},
		{"abcdefh", 5, c}, {"abcDefg", 5, c}, {"abcdefgh", 5, c}, {"abcedfg", 5, c}, // the old file has become another one
	} {
		if s, err := patch.Whole(x.old, 3, ops, x.n, x.c); s != "" || err != api.ErrSum {
			t.Errorf("%q, %d, %d: %q %v", x.old, x.n, x.c, s, err)
		}
	}
	for _, old := range []string{"abcdefg", "xyzdefg"} { // block 0 is none of those that are copied
		if s, err := patch.Whole(old, 3, ops, len(want), c); s != want || err != nil {
			t.Errorf("%q: %q %v", old, s, err)
		}
	}
	if s, err := patch.Whole("abc", 1, nil, 0, 0); s != "" || err != nil { // a file of nothing has the sum 0
		t.Errorf("%q %v", s, err)
	}
	if s, err := patch.Whole("abc", 1, nil, 0, 1); s != "" || err != api.ErrSum {
		t.Errorf("%q %v", s, err)
	}
}

// pairs of files, one made of the other.
func pairs() [][2]string {
	most, some := mixed(api.MaxFile), mixed(300)
	return [][2]string{
		{"", ""}, {"", some}, {some, ""}, {some, some}, {most, most}, {"", most}, {most, ""},
		{some, "x" + some}, {some, some + "x"}, {some, some[1:]}, {some, some[:299]},
		{some, some[:150] + "in between" + some[150:]}, {some, some[200:] + some[:200]},
		{some, some[:100] + some[128:]}, {some, some + some + some}, {some, strings.ToUpper(some)},
		{most, most[2000:] + most[:2000]}, {most, most[1:] + "x"}, {most, "x" + most[1:]},
		{xs(api.MaxFile), xs(3000)}, {xs(100), xs(api.MaxFile)}, {xs(99) + "y", "y" + xs(99)},
		{strings.Repeat("ab", 500), strings.Repeat("ba", 600)}, {strings.Repeat("\x00", 99), strings.Repeat("\x00", 130)},
		{some, strings.Repeat(some[:64], 62)}, {most, xs(api.MaxFile)},
	}
}

// P61: a file comes from its delta to another one's signature, also where both went as bytes.
func TestAlways(t *testing.T) {
	for i, p := range pairs() {
		for _, size := range sizes() {
			old, s := p[0], p[1]
			if got, err := sent(t, old, size, s); got != s || err != nil {
				t.Errorf("%d by %d: %d bytes, %v, want %d", i, size, len(got), err, len(s))
			}
		}
	}
}

// sent: what the other side makes of old, with its signature and the delta read from their bytes.
func sent(t *testing.T, old string, size int, s string) (string, error) {
	t.Helper()
	l, err := sign.Of(old, size)
	there := must(t)(sign.Text(l, size))
	l, size, bad := sign.Read(there)
	if err != nil || bad != nil {
		t.Fatal(err, bad)
	}
	ops, err := delta.Make(l, size, s)
	back := must(t)(delta.Text(ops))
	ops, bad = delta.Read(back)
	if err != nil || bad != nil {
		t.Fatal(err, bad)
	}
	if got, err := patch.Apply(old, size, ops); got != s || err != nil {
		t.Errorf("%d bytes, %v", len(got), err)
	}
	return patch.Whole(old, size, ops, len(s), sum.Sum(s))
}

// P61's exception: of unlike blocks with the same sums the old one is copied. Whole can't tell, as the
// sum of all is of the same kind: what both differ by is a multiple of what is divided by, wherever it lies.
func TestSameSums(t *testing.T) {
	const divisor, nothing = "\x41\x06\x71\xdb\x01\x00\x00\x00", "\x00\x00\x00\x00\x00\x00\x00\x00"
	old, s := divisor+nothing+nothing+divisor, nothing+divisor+divisor+nothing
	l, _ := sign.Of(old, 32)
	ops, _ := delta.Make(l, 32, "x"+s)
	if !slices.Equal(ops, []api.Op{data("x"), cp(0, 1)}) {
		t.Fatal(ops)
	}
	if got, err := patch.Whole(old, 32, ops, 33, sum.Sum("x"+s)); got != "x"+old || err != nil {
		t.Errorf("%q %v", got, err)
	}
}

func must(t *testing.T) func(string, error) string {
	return func(s string, err error) string {
		t.Helper()
		if err != nil {
			t.Fatal(err)
		}
		return s
	}
}

// P2: what is answered is the same each time, also side by side.
func TestSideBySide(t *testing.T) {
	old := mixed(1000)
	ops := []api.Op{cp(3, 20), data("new"), cp(0, 32), cp(31, 1)}
	want, _, _ := asked(old, 32, ops)
	var all sync.WaitGroup
	for range 8 {
		all.Go(func() {
			for range 50 {
				for _, call := range calls(want) {
					if s, err := call(old, 32, ops); s != want || err != nil {
						t.Error(len(s), err)
					}
				}
				if s, err := patch.Apply(old, 32, append(slices.Clone(ops), cp(32, 1))); s != "" || !told(err, 4, api.ErrNone) {
					t.Error(len(s), err)
				}
			}
		})
	}
	all.Wait()
}

// P4: a list that comes in is only read; P3: nothing behind its length counts; an error's Fault is new.
func TestMemory(t *testing.T) {
	room := []api.Op{cp(1, 1), data("x"), {Kind: "what"}, cp(99, 9)}
	was := slices.Clone(room)
	for _, call := range calls("defx") {
		if s, err := call("abcdefg", 3, room[:2]); s != "defx" || err != nil {
			t.Errorf("%q %v", s, err)
		}
	}
	wrong := []api.Op{data("x"), cp(99, 9)}
	_, one := patch.Apply("abc", 3, wrong)
	one.(*api.Fault).At = 7
	if _, two := patch.Apply("abc", 3, wrong); !told(two, 1, api.ErrNone) {
		t.Error(two)
	}
	if !slices.Equal(room, was) {
		t.Errorf("%v, was %v", room, was)
	}
}

// opsOf any bytes: three of them for each op.
func opsOf(b []byte) []api.Op {
	var ops []api.Op
	for ; len(b) >= 3; b = b[3:] {
		if b[0]&1 == 0 {
			ops = append(ops, cp(int(b[1]), int(b[2])))
		} else {
			ops = append(ops, data(strings.Repeat(string(rune(b[1])), int(b[2])*16)))
		}
	}
	return ops
}

// FuzzApply holds P60 against any ops.
func FuzzApply(f *testing.F) {
	f.Add("abcdefg", 3, []byte{0, 1, 2, 1, 'x', 1, 0, 0, 1})
	f.Add("", 1, []byte{})
	f.Add(mixed(api.MaxFile), 64, []byte{0, 0, 63, 1, 'x', 1})
	f.Add(mixed(500), 64, []byte{0, 7, 1, 0, 8, 1})
	f.Add("abc", 0, []byte{0, 0, 0})
	f.Fuzz(func(t *testing.T, old string, size int, b []byte) {
		ops := opsOf(b)
		s, err := patch.Apply(old, size, ops)
		want, at, bad := "", nowhere, api.ErrBound
		if size >= 1 && size <= api.MaxBlock && len(old) <= api.MaxFile {
			if err := delta.Check(ops); err != nil {
				at, bad = err.(*api.Fault).At, err.(*api.Fault).Err
			} else {
				want, at, bad = asked(old, size, ops)
			}
		}
		if s != want || !told(err, at, bad) {
			t.Errorf("%d by %d, %v: %d bytes, %v, want %d, %v at %d", len(old), size, ops, len(s), err, len(want), bad, at)
		}
	})
}

// FuzzWhole holds P61 against any two files.
func FuzzWhole(f *testing.F) {
	f.Add("abcdef", "xabcdef", 3)
	f.Add("", "", 1)
	f.Add(mixed(200), mixed(100)+mixed(150), 64)
	f.Add("aaaaab", "aabaab", 2)
	f.Fuzz(func(t *testing.T, old, s string, size int) {
		if size < 1 || size > api.MaxBlock || len(old) > api.MaxFile || len(s) > api.MaxFile {
			return
		}
		if got, err := sent(t, old, size, s); got != s || err != nil {
			t.Errorf("%d bytes, %v, want %d", len(got), err, len(s))
		}
	})
}
