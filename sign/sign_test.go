package sign_test

import (
	"errors"
	"math"
	"slices"
	"strings"
	"sync"
	"testing"

	"packhorse/api"
	"packhorse/num"
	"packhorse/sign"
	"packhorse/sum"
	"packhorse/weak"
)

// The face, as it is given.
var (
	_ func(string, int) ([]api.Block, error) = sign.Of
	_ func([]api.Block, int) error           = sign.Check
	_ func(int) int                          = sign.Size
	_ func([]api.Block, int) (string, error) = sign.Text
	_ func(string) ([]api.Block, int, error) = sign.Read
	_ func([]api.Block, string) int          = sign.Find
)

const greatest = api.Mod*api.Mod - 1

// mixed is a text of so many bytes, of which few blocks are alike.
func mixed(n int) string {
	b := make([]byte, n)
	for i := range b {
		b[i] = byte(i * i * 7 >> 3)
	}
	return string(b)
}

func files() []string {
	l := []string{"", "a", "abc", "\x00", "\xff\xff\xff\xff", "grüße"}
	for _, n := range []int{2, 3, 4, 5, 63, 64, 65, 127, 128, 129, api.MaxFile - 1, api.MaxFile} {
		l = append(l, mixed(n), strings.Repeat("\x00", n), strings.Repeat("\xff", n), strings.Repeat("ab", n)[:n])
	}
	return l
}

func sizes() []int { return []int{1, 2, 3, 4, 7, 32, 63, 64} }

// pieces of a file, cut off its front one by one.
func pieces(s string, size int) []string {
	var l []string
	for len(s) > size {
		l = append(l, s[:size])
		s = s[size:]
	}
	if s != "" {
		l = append(l, s)
	}
	return l
}

func block(s string) api.Block {
	return api.Block{N: len(s), Weak: weak.Sum(s), Strong: sum.Sum(s)}
}

// many blocks of so many bytes, of any sums.
func many(blocks, size int) []api.Block {
	var l []api.Block
	for i := range blocks {
		l = append(l, api.Block{N: size, Weak: i, Strong: math.MaxUint32 - uint32(i)})
	}
	return l
}

// P40: of each size bytes, and of what is left.
func TestOf(t *testing.T) {
	for _, s := range files() {
		for _, size := range sizes() {
			var want []api.Block
			for _, p := range pieces(s, size) {
				want = append(want, block(p))
			}
			l, err := sign.Of(s, size)
			if err != nil || !slices.Equal(l, want) {
				t.Errorf("%d bytes by %d: %v %v, want %v", len(s), size, l, err, want)
			}
			if err := sign.Check(l, size); err != nil {
				t.Errorf("%d bytes by %d: %v", len(s), size, err)
			}
		}
	}
}

// P40, in numbers.
func TestOfNumbers(t *testing.T) {
	want := []api.Block{
		{N: 3, Weak: 294 + 586*api.Mod, Strong: 0x352441c2},
		{N: 3, Weak: 294 + 586*api.Mod, Strong: 0x352441c2},
		{N: 1, Weak: 97 + 97*api.Mod, Strong: 0xe8b7be43},
	}
	if l, err := sign.Of("abcabca", 3); err != nil || !slices.Equal(l, want) {
		t.Errorf("%v %v, want %v", l, err, want)
	}
}

// P40: what Of can't take.
func TestOfBound(t *testing.T) {
	long := mixed(api.MaxFile + 1)
	for _, c := range []struct {
		s    string
		size int
	}{
		{long, 1}, {long, api.MaxBlock}, {long, 0}, {strings.Repeat(long, 10), 4},
		{"abc", 0}, {"abc", -1}, {"abc", math.MinInt}, {"abc", api.MaxBlock + 1}, {"abc", math.MaxInt}, {"", 0}, {"", 65},
	} {
		if l, err := sign.Of(c.s, c.size); len(l) != 0 || err != api.ErrBound {
			t.Errorf("%d bytes by %d: %v %v", len(c.s), c.size, l, err)
		}
	}
}

// P40: what Check lets through.
func TestCheckRight(t *testing.T) {
	for _, c := range []struct {
		l    []api.Block
		size int
	}{
		{nil, 1}, {[]api.Block{}, 64}, {many(1, 1), 1}, {many(1, 1), 64}, {many(1, 63), 64},
		{many(api.MaxFile, 1), 1},
		{append(many(62, 64), many(1, 32)...), 64},
		{append(many(62, 64), many(1, 1)...), 64},
		{[]api.Block{{N: 4, Weak: greatest, Strong: math.MaxUint32}, {N: 2}}, 4},
	} {
		if err := sign.Check(c.l, c.size); err != nil {
			t.Errorf("%d blocks of %d: %v", len(c.l), c.size, err)
		}
		s, err := sign.Text(c.l, c.size)
		l, size, bad := sign.Read(s)
		if err != nil || bad != nil || size != c.size || !slices.Equal(l, c.l) {
			t.Errorf("%d blocks of %d: %d blocks of %d, %v %v", len(c.l), c.size, len(l), size, err, bad)
		}
	}
}

const nowhere = -1

type wrong struct {
	l    []api.Block
	size int
	at   int
	err  error
}

func wrongs() []wrong {
	four := api.Block{N: 4}
	full := append(many(63, 64), api.Block{})
	return []wrong{
		{nil, 0, nowhere, api.ErrBound},
		{nil, -1, nowhere, api.ErrBound},
		{nil, math.MinInt, nowhere, api.ErrBound},
		{nil, 65, nowhere, api.ErrBound},
		{many(1, 65), 65, nowhere, api.ErrBound},
		{[]api.Block{{}}, math.MaxInt, nowhere, api.ErrBound},
		{[]api.Block{{}}, 0, nowhere, api.ErrBound},

		{[]api.Block{{}}, 4, 0, api.ErrBound},
		{[]api.Block{{N: -1}}, 4, 0, api.ErrBound},
		{[]api.Block{{N: math.MinInt}}, 4, 0, api.ErrBound},
		{[]api.Block{{N: math.MaxInt}}, 4, 0, api.ErrBound},
		{[]api.Block{{N: 5}}, 4, 0, api.ErrBound},
		{[]api.Block{{N: 3}, four}, 4, 0, api.ErrBound},
		{[]api.Block{four, {N: 3}, four}, 4, 1, api.ErrBound},
		{[]api.Block{four, {N: 5}, four}, 4, 1, api.ErrBound},
		{[]api.Block{four, four, {}}, 4, 2, api.ErrBound},
		{[]api.Block{four, four, {N: 5}}, 4, 2, api.ErrBound},
		{[]api.Block{four, {N: 4, Weak: -1}, {}}, 4, 1, api.ErrBound},
		{[]api.Block{four, {N: 4, Weak: greatest + 1}}, 4, 1, api.ErrBound},
		{[]api.Block{{N: 4, Weak: math.MaxInt}, four}, 4, 0, api.ErrBound},
		{[]api.Block{four, {N: 1, Weak: math.MinInt}}, 4, 1, api.ErrBound},

		{many(api.MaxFile+1, 1), 1, api.MaxFile, api.ErrFull},
		{many(63, 64), 64, 62, api.ErrFull},
		{append(many(62, 64), many(1, 33)...), 64, 62, api.ErrFull},
		{many(1000, 64), 64, 62, api.ErrFull},
		{full, 64, 62, api.ErrFull}, // the first block counts, ahead of what is wrong
		{append(many(62, 64), api.Block{N: 64, Weak: -1}), 64, 62, api.ErrBound},
		{append(many(62, 64), api.Block{N: 65}), 64, 62, api.ErrBound},
	}
}

// P40: what Check doesn't let through, and where; P41: Text tells the same, bare.
func TestCheckWrong(t *testing.T) {
	for i, c := range wrongs() {
		err := sign.Check(c.l, c.size)
		f, placed := err.(*api.Fault)
		if placed != (c.at != nowhere) || placed && (f.At != c.at || f.Err != c.err) || !placed && err != c.err {
			t.Errorf("%d: %v, want %v at %d", i, err, c.err, c.at)
		}
		if s, err := sign.Text(c.l, c.size); s != "" || err != c.err {
			t.Errorf("%d: %q %v, want %v", i, s, err, c.err)
		}
	}
}

// P40: the least power of 2 whose square is at least as many.
func TestSize(t *testing.T) {
	powers := []int{4, 8, 16, 32, 64}
	for n := -10; n < 6000; n++ {
		want := 64
		if i := slices.IndexFunc(powers, func(k int) bool { return k*k >= n }); i >= 0 {
			want = powers[i]
		}
		if k := sign.Size(n); k != want {
			t.Errorf("%d: %d, want %d", n, k, want)
		}
	}
	for n, want := range map[int]int{
		math.MinInt: 4, 16: 4, 17: 8, 64: 8, 65: 16, 256: 16, 257: 32, 1024: 32, 1025: 64,
		api.MaxFile: 64, 4096: 64, 4097: 64, 1 << 62: 64, math.MaxInt: 64,
	} {
		if k := sign.Size(n); k != want {
			t.Errorf("%d: %d, want %d", n, k, want)
		}
	}
}

// P42: as many bytes, and both sums; the first such block.
func TestFind(t *testing.T) {
	abc, d := block("abc"), block("d")
	notStrong, notWeak, notN := abc, abc, abc
	notStrong.Strong++
	notWeak.Weak++
	notN.N++
	l := []api.Block{notStrong, notWeak, notN, abc, d, abc}
	for s, want := range map[string]int{"abc": 3, "d": 4, "": -1, "ab": -1, "abcd": -1, "acb": -1, "D": -1, mixed(9000): -1} {
		if k := sign.Find(l, s); k != want {
			t.Errorf("%q: %d, want %d", s, k, want)
		}
	}
	for _, none := range [][]api.Block{nil, {}, {{}}, {notStrong}, {notWeak}, {notN}, l[:3], {{N: -3, Weak: abc.Weak, Strong: abc.Strong}}} {
		if k := sign.Find(none, "abc"); k != -1 {
			t.Errorf("%v: %d", none, k)
		}
	}
	if k := sign.Find([]api.Block{d, {}}, ""); k != 1 { // the sums of no bytes are 0, both
		t.Error(k)
	}
}

// P42: texts with one weak sum aren't taken for each other.
func TestFindSameWeak(t *testing.T) {
	a, b := "bab", "aca" // a's first and last bytes less 1, the middle one more 2: both halves stay
	if weak.Sum(a) != weak.Sum(b) {
		t.Fatal("these have other sums")
	}
	l, _ := sign.Of(a+b, 3)
	if sign.Find(l, a) != 0 || sign.Find(l, b) != 1 || sign.Find(l[:1], b) != -1 {
		t.Error(sign.Find(l, a), sign.Find(l, b), sign.Find(l[:1], b))
	}
}

// P43: each block of a file is found in its signature.
func TestAlwaysFound(t *testing.T) {
	for _, s := range files() {
		for _, size := range sizes() {
			l, _ := sign.Of(s, size)
			list := pieces(s, size)
			for i, p := range list {
				if k := sign.Find(l, p); k != slices.Index(list, p) {
					t.Fatalf("%d bytes by %d: block %d at %d", len(s), size, i, k)
				}
			}
		}
	}
}

// P2: what is answered is the same each time, also side by side.
func TestSideBySide(t *testing.T) {
	s := mixed(1000)
	l, _ := sign.Of(s, 32)
	text, _ := sign.Text(l, 32)
	var all sync.WaitGroup
	for range 8 {
		all.Go(func() {
			for range 20 {
				a, _ := sign.Of(s, 32)
				b, _ := sign.Text(l, 32)
				c, size, _ := sign.Read(text)
				if !slices.Equal(a, l) || b != text || !slices.Equal(c, l) || size != 32 || sign.Find(l, s[32:64]) != 1 {
					t.Error("another answer")
				}
			}
		})
	}
	all.Wait()
}

// P4: lists that come in are only read, those that go out are new; P3: nothing behind a list's length counts.
func TestMemory(t *testing.T) {
	room := append(many(3, 4), api.Block{N: 99, Weak: -1}, api.Block{N: 4, Weak: 1})
	was := slices.Clone(room)
	l := room[:2]
	if err := sign.Check(l, 4); err != nil {
		t.Error(err)
	}
	one, err := sign.Text(l, 4)
	two, bad := sign.Text(slices.Clip(slices.Clone(l)), 4)
	if one != two || err != nil || bad != nil {
		t.Errorf("%q %q", one, two)
	}
	if k := sign.Find([]api.Block{block("x"), block("abc")}[:1], "abc"); k != -1 {
		t.Error(k)
	}
	if !slices.Equal(room, was) {
		t.Errorf("%v, was %v", room, was)
	}
	a, _ := sign.Of("abcdef", 3)
	a[0], a = api.Block{}, append(a[:1], api.Block{})
	if b, _ := sign.Of("abcdef", 3); !slices.Equal(b, []api.Block{block("abc"), block("def")}) {
		t.Error(b)
	}
	c, _, _ := sign.Read(one)
	c[0] = api.Block{}
	if d, _, _ := sign.Read(one); !slices.Equal(d, l) {
		t.Error(d)
	}
}

// P41: the bytes, spelt out by num.Put.
func TestText(t *testing.T) {
	for _, c := range []struct {
		l    []api.Block
		size int
		want string
	}{
		{nil, 3, "\x03\x00"},
		{[]api.Block{}, 64, "\x40\x00"},
		{[]api.Block{{N: 2, Weak: 300, Strong: 128}}, 2, "\x02\x01\x02\xac\x02\x80\x01"},
		{[]api.Block{{N: 5, Weak: 1}, {N: 2, Weak: greatest, Strong: math.MaxUint32}}, 5, "\x05\x02\x05\x01\x00\x02\xff\xff\xff\xff\x0f\xff\xff\xff\xff\x0f"},
	} {
		if s, err := sign.Text(c.l, c.size); s != c.want || err != nil {
			t.Errorf("%q %v, want %q", s, err, c.want)
		}
	}
	for _, s := range files() {
		for _, size := range sizes() {
			l, _ := sign.Of(s, size)
			want := spelt(size, len(l))
			for _, b := range l {
				want += spelt(b.N, b.Weak, int(b.Strong))
			}
			a, err := sign.Text(l, size)
			if a != want || err != nil {
				t.Errorf("%d bytes by %d: %q %v, want %q", len(s), size, a, err, want)
			}
			back, n, err := sign.Read(a)
			if !slices.Equal(back, l) || n != size || err != nil {
				t.Errorf("%d bytes by %d: %v %d %v", len(s), size, back, n, err)
			}
		}
	}
}

func spelt(l ...int) string {
	all := ""
	for _, n := range l {
		s, err := num.Put(n)
		if err != nil {
			panic(err)
		}
		all += s
	}
	return all
}

// P41: what is not just a signature, in the order in which it is told, and always bare.
func TestReadWrong(t *testing.T) {
	const above = "\x81\x80\x80\x80\x80\x20" // MaxNum and 1
	const strong = 1 << 32
	for s, want := range map[string]error{
		"":                             api.ErrText,
		"\x80":                         api.ErrText,
		"\x80\x00":                     api.ErrText,
		spelt(4):                       api.ErrText,
		spelt(4, 0) + "x":              api.ErrText,
		spelt(4, 0, 4, 0, 0):           api.ErrText,
		spelt(4, 1, 4, 0, 0) + "\x00":  api.ErrText,
		spelt(4, 2, 4, 0, 0):           api.ErrText,
		spelt(4, 1, 4, 0) + "\x80\x00": api.ErrText,
		spelt(4, 1, 4, 0, strong):      api.ErrText,
		spelt(4, 1, 4, 0, api.MaxNum):  api.ErrText,
		spelt(4, api.MaxNum):           api.ErrText, // far more blocks than there are
		spelt(4, api.MaxNum, 4, 0, 0):  api.ErrText,

		above:                             api.ErrBound,
		spelt(4) + above:                  api.ErrBound,
		spelt(4, 1) + above:               api.ErrBound,
		spelt(4, 1, 4) + above:            api.ErrBound,
		spelt(4, 1, 4, 0) + above:         api.ErrBound,
		above + "\x80":                    api.ErrBound, // the first error ends it
		spelt(4) + above + "\x80\x00":     api.ErrBound,
		spelt(4, 2, 4, 0, strong) + above: api.ErrText,
		spelt(4, 2, 4, 0) + above + spelt(4, 0) + "\x80\x00": api.ErrBound,

		spelt(0, 0):                                      api.ErrBound,
		spelt(65, 0):                                     api.ErrBound,
		spelt(api.MaxNum, 0):                             api.ErrBound,
		spelt(4, 1, 0, 0, 0):                             api.ErrBound,
		spelt(4, 1, 5, 0, 0):                             api.ErrBound,
		spelt(4, 2, 3, 0, 0, 4, 0, 0):                    api.ErrBound,
		spelt(4, 1, 4, greatest+1, 0):                    api.ErrBound,
		spelt(4, 1, 4, api.MaxNum, 0):                    api.ErrBound,
		spelt(64, 63) + blocks(63, 64):                   api.ErrFull,
		spelt(1, 4001) + blocks(4001, 1):                 api.ErrFull,
		spelt(64, 64) + blocks(63, 64) + spelt(65, 0, 0): api.ErrFull,

		spelt(0, 0) + "x":                       api.ErrText, // what is no signature's text is not checked as one
		spelt(65, 1):                            api.ErrText,
		spelt(4, 1, 5, 0, strong):               api.ErrText,
		spelt(4, 2, 3, 0, 0, 4, 0):              api.ErrText,
		spelt(64, 63) + blocks(63, 64) + "\x00": api.ErrText,
	} {
		if l, size, err := sign.Read(s); len(l) != 0 || size != 0 || err != want {
			t.Errorf("%.40q: %v %d %v, want %v", s, l, size, err, want)
		}
	}
}

// blocks as bytes, all of no sums.
func blocks(n, size int) string { return strings.Repeat(spelt(size, 0, 0), n) }

// P41: a signature that ends early is none.
func TestReadCut(t *testing.T) {
	l, _ := sign.Of(mixed(200), 16)
	s, _ := sign.Text(l, 16)
	for i := range len(s) {
		if l, size, err := sign.Read(s[:i]); len(l) != 0 || size != 0 || err != api.ErrText {
			t.Errorf("%d: %v %d %v", i, l, size, err)
		}
	}
}

// P41: each signature is written in one way: with any byte turned, it is another one or none.
func TestReadTurned(t *testing.T) {
	l, _ := sign.Of(mixed(100), 16)
	s, _ := sign.Text(l, 16)
	for i := range len(s) {
		for b := range 256 {
			turned := s[:i] + string([]byte{byte(b)}) + s[i+1:]
			readOneWay(t, turned)
			if back, size, _ := sign.Read(turned); turned != s && size == 16 && slices.Equal(back, l) {
				t.Errorf("byte %d as %d: the same", i, b)
			}
		}
	}
}

// readOneWay: what is read is written as it stood; what is not read answers nothing but a bare error.
func readOneWay(t *testing.T, s string) {
	t.Helper()
	l, size, err := sign.Read(s)
	if err != nil {
		bare := err == api.ErrText || err == api.ErrBound || err == api.ErrFull
		if len(l) != 0 || size != 0 || !bare {
			t.Errorf("%q: %v %d %v", s, l, size, err)
		}
		return
	}
	if err := sign.Check(l, size); err != nil {
		t.Errorf("%q: %v", s, err)
	}
	if back, err := sign.Text(l, size); back != s || err != nil {
		t.Errorf("%q: %q %v", s, back, err)
	}
}

// FuzzRead holds P41 against any bytes.
func FuzzRead(f *testing.F) {
	for _, s := range []string{"", "abc", mixed(70)} {
		l, _ := sign.Of(s, 16)
		text, _ := sign.Text(l, 16)
		f.Add(text)
	}
	f.Add("\x04\x01\x04\x00\x80\x80\x80\x80\x10")
	f.Add("\x04\x80\x80\x80\x80\x80\x20\x04\x00\x00")
	f.Fuzz(readOneWay)
}

// FuzzOf holds P40 and P43 against any file.
func FuzzOf(f *testing.F) {
	f.Add("", 1)
	f.Add("abcabcd", 3)
	f.Add(mixed(200), 64)
	f.Fuzz(func(t *testing.T, s string, size int) {
		l, err := sign.Of(s, size)
		if err != nil {
			if len(l) != 0 || !errors.Is(err, api.ErrBound) || len(s) <= api.MaxFile && size >= 1 && size <= api.MaxBlock {
				t.Error(len(s), size, err)
			}
			return
		}
		list := pieces(s, size)
		if len(l) != len(list) || sign.Check(l, size) != nil {
			t.Error(len(s), size, l)
		}
		for i, p := range list {
			if k := sign.Find(l, p); k < 0 || k > i || l[i] != block(p) {
				t.Error(len(s), size, i, k)
			}
		}
	})
}
