package delta_test

import (
	"math"
	"slices"
	"strings"
	"sync"
	"testing"

	"packhorse/api"
	"packhorse/delta"
	"packhorse/sign"
	"packhorse/sum"
	"packhorse/weak"
)

// The face, as it is given.
var (
	_ func([]api.Block, int, string) ([]api.Op, error) = delta.Make
	_ func([]api.Op) error                             = delta.Check
	_ func([]api.Op) (string, error)                   = delta.Text
	_ func(string) ([]api.Op, error)                   = delta.Read
	_ func([]api.Op) int                               = delta.Cost
)

// P51: the kinds have the names that an op has.
func TestKinds(t *testing.T) {
	if delta.KindCopy != "copy" || delta.KindData != "data" {
		t.Error(delta.KindCopy, delta.KindData)
	}
}

func cp(at, n int) api.Op { return api.Op{Kind: "copy", At: at, N: n} }

func data(s string) api.Op { return api.Op{Kind: "data", Data: s} }

func xs(n int) string { return strings.Repeat("x", n) }

// mixed is a text of so many bytes, of which few blocks are alike.
func mixed(n int) string {
	b := make([]byte, n)
	for i := range b {
		b[i] = byte(i * i * 7 >> 3)
	}
	return string(b)
}

func sizes() []int { return []int{1, 2, 3, 4, 7, 32, 63, 64} }

func signed(t *testing.T, s string, size int) []api.Block {
	t.Helper()
	l, err := sign.Of(s, size)
	if err != nil {
		t.Fatal(err)
	}
	return l
}

// asked is what P50 says of Make, word by word: no sum is rolled, and data grows by a byte.
func asked(l []api.Block, size int, s string) []api.Op {
	var ops []api.Op
	for s != "" {
		n := min(size, len(s))
		k := sign.Find(l, s[:n])
		end := len(ops) - 1
		switch {
		case k >= 0 && end >= 0 && ops[end].Kind == "copy" && ops[end].At+ops[end].N == k:
			ops[end].N++
		case k >= 0:
			ops = append(ops, cp(k, 1))
		case end >= 0 && ops[end].Kind == "data":
			ops[end].Data += s[:1]
		default:
			ops = append(ops, data(s[:1]))
		}
		if k < 0 {
			n = 1
		}
		s = s[n:]
	}
	return ops
}

// together is the file that the ops make of old.
func together(old string, size int, ops []api.Op) string {
	s := ""
	for _, op := range ops {
		if op.Kind == "copy" {
			s += old[op.At*size : min((op.At+op.N)*size, len(old))]
		}
		s += op.Data
	}
	return s
}

// P50: ordinary files, and the edges: a file of nothing, blocks at the end that are shorter, blocks that are alike.
func TestMake(t *testing.T) {
	for _, c := range []struct {
		old  string
		size int
		s    string
		want []api.Op
	}{
		{"", 1, "", nil},
		{"abc", 3, "", nil},
		{"", 3, "abc", []api.Op{data("abc")}},
		{"abcdef", 3, "xabcdef", []api.Op{data("x"), cp(0, 2)}},
		{"abcdef", 3, "abcdef", []api.Op{cp(0, 2)}},
		{"abcdef", 3, "defabc", []api.Op{cp(1, 1), cp(0, 1)}},
		{"abcdef", 3, "abcabc", []api.Op{cp(0, 1), cp(0, 1)}},
		{"abcdef", 3, "defdef", []api.Op{cp(1, 1), cp(1, 1)}},
		{"abcdef", 3, "abcxyzdef", []api.Op{cp(0, 1), data("xyz"), cp(1, 1)}},
		{"abcdef", 3, "abcdefx", []api.Op{cp(0, 2), data("x")}},
		{"abcdef", 3, "ababcab", []api.Op{data("ab"), cp(0, 1), data("ab")}},
		{"abcdefghi", 3, "abcghi", []api.Op{cp(0, 1), cp(2, 1)}},
		{"abcdefghi", 3, "defghiabcdef", []api.Op{cp(1, 2), cp(0, 2)}},
		{"abcdefghi", 3, "xdefghi", []api.Op{data("x"), cp(1, 2)}},

		{"abcdefg", 3, "g", []api.Op{cp(2, 1)}}, // what is left at the end may be the last block
		{"abcdefg", 3, "defg", []api.Op{cp(1, 2)}},
		{"abcdefg", 3, "gg", []api.Op{data("g"), cp(2, 1)}},
		{"abcdefg", 3, "gabc", []api.Op{data("g"), cp(0, 1)}},
		{"abcdefg", 3, "abcxg", []api.Op{cp(0, 1), data("x"), cp(2, 1)}},
		{"abcde", 3, "abcdef", []api.Op{cp(0, 1), data("def")}},
		{"ab", 5, "ab", []api.Op{cp(0, 1)}},
		{"ab", 5, "abab", []api.Op{data("ab"), cp(0, 1)}},
		{"ab", 5, "abc", []api.Op{data("abc")}},
		{"abc", 3, "ab", []api.Op{data("ab")}},

		{"aaaa", 1, "aaa", []api.Op{cp(0, 1), cp(0, 1), cp(0, 1)}}, // the first of those that are alike
		{"abab", 2, "abab", []api.Op{cp(0, 1), cp(0, 1)}},
		{"abcab", 1, "abca", []api.Op{cp(0, 3), cp(0, 1)}},
		{"aabb", 1, "ab", []api.Op{cp(0, 1), cp(2, 1)}},
		{"\x00\x00\xff", 2, "\x00\x00\x00\xff", []api.Op{cp(0, 1), data("\x00"), cp(1, 1)}},
	} {
		ops, err := delta.Make(signed(t, c.old, c.size), c.size, c.s)
		if err != nil || !slices.Equal(ops, c.want) {
			t.Errorf("%q to %q by %d: %v %v, want %v", c.s, c.old, c.size, ops, err, c.want)
		}
	}
}

// pairs of files, one made of the other.
func pairs() [][2]string {
	whole := mixed(api.MaxFile)
	short := mixed(300)
	return [][2]string{
		{"", ""}, {"", short}, {short, ""}, {short, short}, {whole, whole},
		{short, "new" + short}, {short, short + "new"}, {short, short[:150] + "new" + short[150:]},
		{short, short[1:]}, {short, short[:299]}, {short, short[100:] + short[:100]},
		{short, strings.Repeat(short[64:128], 4)}, {short, short[:100] + short[128:]},
		{whole, whole[1:] + "x"}, {whole, whole[:2000] + "x" + whole[2001:]}, {whole[64:], whole},
		{xs(300), xs(299)}, {xs(200), "y" + xs(99) + "y"}, {strings.Repeat("ab", 100), strings.Repeat("ba", 100)},
		{strings.Repeat("\x00", 200), strings.Repeat("\x00", 333)},
	}
}

// P50: as the words say it, byte by byte; and what it makes is the file.
func TestMakeAsAsked(t *testing.T) {
	for i, p := range pairs() {
		for _, size := range sizes() {
			l := signed(t, p[0], size)
			ops, err := delta.Make(l, size, p[1])
			if err != nil || !slices.Equal(ops, asked(l, size, p[1])) {
				t.Errorf("%d by %d: %v %v", i, size, ops, err)
			}
			if together(p[0], size, ops) != p[1] {
				t.Errorf("%d by %d: another file", i, size)
			}
			if err := delta.Check(ops); err != nil {
				t.Errorf("%d by %d: %v", i, size, err)
			}
		}
	}
}

// P50: all short files of few letters.
func TestMakeAll(t *testing.T) {
	level := []string{""}
	var all []string
	for range 6 {
		all = append(all, level...)
		var longer []string
		for _, s := range level {
			longer = append(longer, s+"a", s+"b")
		}
		level = longer
	}
	for _, old := range all {
		for size := 1; size <= 4; size++ {
			l := signed(t, old, size)
			for _, s := range all {
				ops, err := delta.Make(l, size, s)
				if err != nil || !slices.Equal(ops, asked(l, size, s)) || together(old, size, ops) != s {
					t.Fatalf("%q to %q by %d: %v %v", s, old, size, ops, err)
				}
			}
		}
	}
}

// P50: a block is found by its number of bytes and both sums, not by one of them.
func TestMakeBothSums(t *testing.T) {
	a, b := "bab", "aca" // both have one weak sum
	if weak.Sum(a) != weak.Sum(b) || sum.Sum(a) == sum.Sum(b) {
		t.Fatal("these have other sums")
	}
	abc := api.Block{N: 3, Weak: weak.Sum("abc"), Strong: sum.Sum("abc")}
	notWeak, notStrong, short := abc, abc, abc
	notWeak.Weak++
	notStrong.Strong++
	short.N = 2
	for _, c := range []struct {
		l    []api.Block
		s    string
		want []api.Op
	}{
		{signed(t, a, 3), b, []api.Op{data(b)}},
		{signed(t, a+b, 3), b + a, []api.Op{cp(1, 1), cp(0, 1)}},
		{[]api.Block{notWeak}, "abc", []api.Op{data("abc")}},
		{[]api.Block{notStrong}, "abc", []api.Op{data("abc")}},
		{[]api.Block{short}, "abc", []api.Op{data("abc")}},
		{[]api.Block{notWeak, notStrong, abc, short}, "abcabc", []api.Op{cp(2, 1), cp(2, 1)}},
	} {
		if ops, err := delta.Make(c.l, 3, c.s); err != nil || !slices.Equal(ops, c.want) {
			t.Errorf("%q to %v: %v %v, want %v", c.s, c.l, ops, err, c.want)
		}
	}
}

// P50: sign.Check's errors with their places, then the file's bytes, bare.
func TestMakeWrong(t *testing.T) {
	long := xs(api.MaxFile + 1)
	four := api.Block{N: 4}
	for i, c := range []struct {
		l    []api.Block
		size int
		s    string
		at   int
		err  error
	}{
		{nil, 0, "", nowhere, api.ErrBound},
		{nil, -1, "abc", nowhere, api.ErrBound},
		{nil, math.MinInt, "abc", nowhere, api.ErrBound},
		{nil, api.MaxBlock + 1, "abc", nowhere, api.ErrBound},
		{nil, math.MaxInt, "abc", nowhere, api.ErrBound},
		{[]api.Block{{}}, 0, long, nowhere, api.ErrBound},
		{[]api.Block{{}}, 4, "abc", 0, api.ErrBound},
		{[]api.Block{four, {N: 4, Weak: -1}, {}}, 4, "", 1, api.ErrBound},
		{[]api.Block{four, {N: 3}, four}, 4, long, 1, api.ErrBound},
		{slices.Repeat([]api.Block{{N: 64}}, 63), 64, "abc", 62, api.ErrFull},
		{slices.Repeat([]api.Block{{N: 64}}, 63), 64, long, 62, api.ErrFull},
		{nil, 4, long, nowhere, api.ErrBound},
		{[]api.Block{four}, 4, long + long, nowhere, api.ErrBound},
	} {
		ops, err := delta.Make(c.l, c.size, c.s)
		if len(ops) != 0 || !told(err, c.at, c.err) {
			t.Errorf("%d: %v %v, want %v at %d", i, ops, err, c.err, c.at)
		}
	}
	if ops, err := delta.Make(nil, 4, long[1:]); err != nil || !slices.Equal(ops, []api.Op{data(long[1:])}) {
		t.Error(len(ops), err)
	}
}

const nowhere = -1

// told: it is this error, as a Fault with its place, or bare.
func told(err error, at int, want error) bool {
	f, placed := err.(*api.Fault)
	if at == nowhere {
		return err == want
	}
	return placed && f.At == at && f.Err == want
}

// P51: all that is an op.
func right() []api.Op {
	return []api.Op{
		cp(0, 1), cp(0, api.MaxFile), cp(api.MaxFile, 1), cp(api.MaxFile, api.MaxFile), cp(1, 1), cp(300, 2),
		data("x"), data("\x00"), data("\x80\xff"), data("grüße"), data(xs(127)), data(xs(128)), data(xs(api.MaxFile)),
	}
}

type wrong struct {
	op  api.Op
	err error
}

func wrongs() []wrong {
	return []wrong{
		{api.Op{}, api.ErrKind},
		{api.Op{Kind: "Copy", N: 1}, api.ErrKind},
		{api.Op{Kind: "copy ", N: 1}, api.ErrKind},
		{api.Op{Kind: "dat", Data: "x"}, api.ErrKind},
		{api.Op{Kind: "0", N: 1}, api.ErrKind},
		{api.Op{Kind: "what", At: -1, N: -1, Data: "x"}, api.ErrKind}, // the kind counts ahead of the shape

		{api.Op{Kind: "copy", N: 1, Data: "x"}, api.ErrShape},
		{api.Op{Kind: "copy", At: -1, Data: "x"}, api.ErrShape}, // and the shape ahead of the bounds
		{api.Op{Kind: "copy", N: 1, Data: xs(api.MaxFile + 1)}, api.ErrShape},
		{api.Op{Kind: "data", At: 1, Data: "x"}, api.ErrShape},
		{api.Op{Kind: "data", At: -1, Data: "x"}, api.ErrShape},
		{api.Op{Kind: "data", N: 1, Data: "x"}, api.ErrShape},
		{api.Op{Kind: "data", N: -1, Data: "x"}, api.ErrShape},
		{api.Op{Kind: "data", At: 1}, api.ErrShape},
		{api.Op{Kind: "data", N: 1, Data: xs(api.MaxFile + 1)}, api.ErrShape},

		{cp(-1, 1), api.ErrBound},
		{cp(math.MinInt, 1), api.ErrBound},
		{cp(api.MaxFile+1, 1), api.ErrBound},
		{cp(math.MaxInt, 1), api.ErrBound},
		{cp(0, 0), api.ErrBound},
		{cp(0, -1), api.ErrBound},
		{cp(0, math.MinInt), api.ErrBound},
		{cp(0, api.MaxFile+1), api.ErrBound},
		{cp(0, math.MaxInt), api.ErrBound},
		{cp(math.MaxInt, math.MaxInt), api.ErrBound},
		{data(""), api.ErrBound},
		{data(xs(api.MaxFile + 1)), api.ErrBound},
		{data(xs(api.MaxText + 1)), api.ErrBound},
	}
}

// P51: what Check lets through, one by one and all at once.
func TestCheckRight(t *testing.T) {
	for i, op := range right() {
		if err := delta.Check([]api.Op{op}); err != nil {
			t.Errorf("%d: %v", i, err)
		}
	}
	for _, l := range [][]api.Op{nil, {}, right(), slices.Repeat(right(), 1000)} {
		if err := delta.Check(l); err != nil {
			t.Errorf("%d ops: %v", len(l), err)
		}
	}
}

// P51: what it does not, and the first place of it; Text tells the same.
func TestCheckWrong(t *testing.T) {
	for i, c := range wrongs() {
		for at := range 3 {
			l := append(slices.Clone(right()[:at]), c.op, api.Op{}, cp(0, 1))
			if err := delta.Check(l); !told(err, at, c.err) {
				t.Errorf("%d at %d: %v, want %v", i, at, err, c.err)
			}
			if s, err := delta.Text(l); s != "" || !told(err, at, c.err) {
				t.Errorf("%d at %d: %d bytes, %v, want %v", i, at, len(s), err, c.err)
			}
		}
	}
	many := slices.Repeat([]api.Op{data(xs(api.MaxFile))}, 10)
	if s, err := delta.Text(append(many, api.Op{})); s != "" || !told(err, 10, api.ErrKind) { // ahead of how many bytes there would be
		t.Error(len(s), err)
	}
}

// P51: bytes of all Data, whatever else an op has.
func TestCost(t *testing.T) {
	for _, c := range []struct {
		ops  []api.Op
		want int
	}{
		{nil, 0}, {[]api.Op{}, 0}, {[]api.Op{cp(0, 7)}, 0}, {[]api.Op{data("abc")}, 3},
		{[]api.Op{data("a"), cp(3, 5), data("grüße"), data("")}, 8},
		{[]api.Op{{}, {Kind: "what", At: -1, N: -9, Data: "xy"}, {Kind: "copy", Data: "z"}}, 3},
		{slices.Repeat([]api.Op{data(xs(api.MaxFile))}, 10), 10 * api.MaxFile},
	} {
		if n := delta.Cost(c.ops); n != c.want {
			t.Errorf("%d ops: %d, want %d", len(c.ops), n, c.want)
		}
	}
}

// P52: of a file with its own signature it has no data.
func TestOwnSignature(t *testing.T) {
	for _, n := range []int{0, 1, 2, 3, 4, 5, 63, 64, 65, 127, 128, 129, 1000, api.MaxFile - 1, api.MaxFile} {
		for _, s := range []string{mixed(n), xs(n), strings.Repeat("ab", n)[:n], strings.Repeat("\x00", n)} {
			for _, size := range sizes() {
				ops, err := delta.Make(signed(t, s, size), size, s)
				if err != nil || delta.Cost(ops) != 0 || slices.ContainsFunc(ops, func(op api.Op) bool { return op.Kind != "copy" }) {
					t.Errorf("%d bytes by %d: %d new, %v", n, size, delta.Cost(ops), err)
				}
				if together(s, size, ops) != s {
					t.Errorf("%d bytes by %d: another file", n, size)
				}
			}
		}
	}
}

// P2: what is answered is the same each time, also side by side.
func TestSideBySide(t *testing.T) {
	old, s := mixed(1000), mixed(500)+"new"+mixed(700)
	l := signed(t, old, 32)
	ops, _ := delta.Make(l, 32, s)
	text, _ := delta.Text(ops)
	var all sync.WaitGroup
	for range 8 {
		all.Go(func() {
			for range 20 {
				a, _ := delta.Make(l, 32, s)
				b, _ := delta.Text(ops)
				c, _ := delta.Read(text)
				if !slices.Equal(a, ops) || b != text || !slices.Equal(c, ops) || delta.Cost(ops) != delta.Cost(a) {
					t.Error("another answer")
				}
			}
		})
	}
	all.Wait()
}

// P4: lists that come in are only read, those that go out are new; P3: nothing behind a list's length counts.
func TestMemory(t *testing.T) {
	blocks := signed(t, "abcdefghi", 3)
	wasBlocks := slices.Clone(blocks)
	ops, err := delta.Make(blocks[:2], 3, "defghi")
	if want := []api.Op{cp(1, 1), data("ghi")}; err != nil || !slices.Equal(ops, want) {
		t.Errorf("%v %v, want %v", ops, err, want)
	}
	ops[0], ops = api.Op{}, append(ops[:1], api.Op{})
	if again, _ := delta.Make(blocks[:2], 3, "defghi"); !slices.Equal(again, []api.Op{cp(1, 1), data("ghi")}) {
		t.Error(again)
	}
	if !slices.Equal(blocks, wasBlocks) {
		t.Errorf("%v, was %v", blocks, wasBlocks)
	}

	room := []api.Op{cp(1, 2), data("x"), {Kind: "what"}, data("behind")}
	was := slices.Clone(room)
	s, err := delta.Text(room[:2])
	if s != "\x02\x00\x01\x02\x01\x01x" || err != nil || delta.Check(room[:2]) != nil || delta.Cost(room[:2]) != 1 {
		t.Errorf("%q %v", s, err)
	}
	one, _ := delta.Read(s)
	one[0] = api.Op{}
	if two, _ := delta.Read(s); !slices.Equal(two, room[:2]) {
		t.Error(two)
	}
	if !slices.Equal(room, was) {
		t.Errorf("%v, was %v", room, was)
	}
}

// FuzzMake holds P50 and P52 against any two files.
func FuzzMake(f *testing.F) {
	f.Add("abcdef", "xabcdef", 3)
	f.Add("", "", 1)
	f.Add(mixed(200), mixed(100)+mixed(150), 64)
	f.Add("aaaaab", "aabaab", 2)
	f.Fuzz(func(t *testing.T, old, s string, size int) {
		l, err := sign.Of(old, size)
		if err != nil {
			l = nil
		}
		ops, err := delta.Make(l, size, s)
		if size < 1 || size > api.MaxBlock || len(s) > api.MaxFile {
			if len(ops) != 0 || err != api.ErrBound {
				t.Error(len(s), size, ops, err)
			}
			return
		}
		if err != nil || delta.Check(ops) != nil || !slices.Equal(ops, asked(l, size, s)) {
			t.Error(len(s), size, ops, err)
		}
		text, err := delta.Text(ops)
		if back, bad := delta.Read(text); err != nil || bad != nil || !slices.Equal(back, ops) {
			t.Error(len(s), size, back, err, bad)
		}
	})
}
