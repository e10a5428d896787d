package xfer_test

import (
	"hash/crc32"
	"slices"
	"strconv"
	"strings"
	"sync"
	"testing"

	"packhorse/api"
	"packhorse/xfer"
)

// The face, as it is given.
var (
	_ func(from, to []api.File) (*xfer.Xfer, error) = xfer.New
	_ func(*xfer.Xfer, int)                         = (*xfer.Xfer).Do
	_ func(*xfer.Xfer) []api.File                   = (*xfer.Xfer).To
	_ func(*xfer.Xfer) bool                         = (*xfer.Xfer).Done
	_ func(*xfer.Xfer) int                          = (*xfer.Xfer).Under
	_ func(*xfer.Xfer) bool                         = (*xfer.Xfer).Finish
)

// The first number of each kind: eight times q is added to it.
const (
	come = iota
	come1
	come2
	lose
	double
	turn
	tick
	anew
)

func file(name, data string) api.File { return api.File{Name: name, Data: data} }

func xs(n int) string { return strings.Repeat("x", n) }

// mixed is a text of so many bytes, of which few blocks are alike.
func mixed(n int) string {
	b := make([]byte, n)
	for i := range b {
		b[i] = byte(i * i * 7 >> 3)
	}
	return string(b)
}

// many files, of so many bytes each.
func many(letter string, files, bytes int) []api.File {
	var l []api.File
	for k := range files {
		l = append(l, file(letter+strconv.Itoa(10+k), strings.Repeat(string(rune('a'+k)), bytes)))
	}
	return l
}

// sides of an xfer: what both had at first.
type sides struct{ from, to []api.File }

func pairs() []sides {
	long := mixed(4000)
	return []sides{
		{nil, nil},
		{[]api.File{}, many("f", 1, 0)},
		{many("f", 1, 0), nil},
		{many("f", 3, 10), many("f", 3, 10)},
		{many("f", 20, 4000), nil},
		{nil, many("f", 20, 4000)},
		{many("f", 20, 100), many("g", 20, 100)},
		{many("f", 20, 100), many("f", 20, 101)},
		{[]api.File{file("a", long)}, []api.File{file("a", long[:3999])}},
		{[]api.File{file("a", long)}, []api.File{file("a", long[1:]+"x")}},
		{[]api.File{file("a", long[:2000]+"new"+long[2003:])}, []api.File{file("a", long)}},
		{[]api.File{file("a", ""), file("b", long)}, []api.File{file("a", long), file("b", "")}},
		{[]api.File{file(".", "a"), file("abcdefghijkl", "b"), file("b", "c")}, []api.File{file("-", "a"), file("b", "C")}},
		{[]api.File{file("a", mixed(300)), file("c", "same")}, []api.File{file("a", xs(300)), file("b", mixed(300)), file("c", "same")}},
		{[]api.File{file("a", "\x00\xff\n")}, []api.File{file("a", "\xff\x00\n")}},
	}
}

func newXfer(t *testing.T, s sides) *xfer.Xfer {
	t.Helper()
	x, err := xfer.New(s.from, s.to)
	if x == nil || err != nil {
		t.Fatal(x, err)
	}
	return x
}

// isOf: it is one of these files, by name, number of bytes, and sum.
func isOf(l []api.File, f api.File) bool {
	return slices.ContainsFunc(l, func(g api.File) bool {
		return g.Name == f.Name && len(g.Data) == len(f.Data) && crc32.ChecksumIEEE([]byte(g.Data)) == crc32.ChecksumIEEE([]byte(f.Data))
	})
}

// wantNear: P142 of what the destination has now.
func wantNear(t *testing.T, x *xfer.Xfer, s sides) {
	t.Helper()
	now, above := x.To(), ""
	for _, f := range now {
		if !isOf(s.from, f) && !slices.Contains(s.to, f) {
			t.Fatalf("%q with %d bytes is of neither side", f.Name, len(f.Data))
		}
		if f.Name <= above {
			t.Fatalf("%q behind %q", f.Name, above)
		}
		above = f.Name
	}
	if len(now) > api.MaxFiles {
		t.Fatalf("%d files", len(now))
	}
	if x.Done() {
		wantAll(t, x, s)
	}
}

// wantAll: the destination has what the source has, and knows it.
func wantAll(t *testing.T, x *xfer.Xfer, s sides) {
	t.Helper()
	now := x.To()
	if !x.Done() || len(now) != len(s.from) {
		t.Fatalf("done: %t, with %d files of %d", x.Done(), len(now), len(s.from))
	}
	for k, f := range now {
		if !isOf(s.from[k:k+1], f) {
			t.Fatalf("%q with %d bytes is not the source's %q with %d", f.Name, len(f.Data), s.from[k].Name, len(s.from[k].Data))
		}
	}
}

// wantFinish: it ends, has all, and behind that nothing changes any more.
func wantFinish(t *testing.T, x *xfer.Xfer, s sides) {
	t.Helper()
	if !x.Finish() {
		t.Fatal("not finished")
	}
	wantAll(t, x, s)
	was, under := x.To(), x.Under()
	for v := -9; v < 64; v++ {
		x.Do(v)
		if !x.Done() || x.Under() != under || !slices.Equal(x.To(), was) {
			t.Fatalf("%d: done: %t, under way: %d, was %d", v, x.Done(), x.Under(), under)
		}
	}
	if !x.Finish() || x.Under() != under || !slices.Equal(x.To(), was) {
		t.Fatalf("again: under way: %d, was %d", x.Under(), under)
	}
}

func TestFinish(t *testing.T) {
	for _, s := range pairs() {
		x := newXfer(t, s)
		if x.Done() {
			t.Error("done, and nothing was told yet")
		}
		if !slices.Equal(x.To(), s.to) {
			t.Error("changed, and nothing was told yet")
		}
		wantFinish(t, x, s)
	}
}

// P141: what is under way when it is done stays there.
func TestFinishWithOthersUnderWay(t *testing.T) {
	for _, s := range pairs() {
		x := newXfer(t, s)
		for range 40 {
			x.Do(double)
		}
		wantFinish(t, x, s)
		if x.Under() == 0 {
			t.Error("all has come")
		}
	}
}

// P141: also if hundreds of frames of all kinds are under way, and the next tick is far.
func TestFinishLate(t *testing.T) {
	for _, s := range pairs() {
		x := newXfer(t, s)
		for k := range 5000 {
			x.Do(tick)
			if k%50 == 0 {
				x.Do(anew)
			}
		}
		for x.Under() > 1 {
			x.Do(lose + 8*x.Under() - 8)
		}
		x.Do(turn)
		wantFinish(t, x, s)
	}
}

// sumsAlike are two blocks of 20 bytes whose both sums are the same: what CRC-32 divides by is laid over one of them at four places, so that the bytes, and these times their places, come to the same.
func sumsAlike() (string, string) {
	poly, none := "\x41\x06\x71\xdb\x01", "\x00\x00\x00\x00\x00"
	return none + poly + poly + none, poly + none + none + poly
}

// P142: unlike blocks with the same sums are taken for each other; the file has as many bytes, and their sum.
func TestBlocksWithSumsAlike(t *testing.T) {
	one, other := sumsAlike()
	rest := mixed(600)
	s := sides{[]api.File{file("a", one+rest+"."), file("b", one)}, []api.File{file("a", other+rest), file("b", other)}}
	x := newXfer(t, s)
	wantFinish(t, x, s)
	if got := x.To()[1]; got != s.to[1] {
		t.Errorf("%q: what has the same sum was not kept", got.Data)
	}
}

// P140: the errors of from, then of to, as files.Check tells them; no Xfer with them.
func TestNewErrors(t *testing.T) {
	const bare = -1
	good, twenty := []api.File{file("a", "x")}, many("f", 21, 0)
	for i, c := range []struct {
		from, to []api.File
		at       int
		err      error
	}{
		{twenty, nil, bare, api.ErrFull},
		{nil, twenty, bare, api.ErrFull},
		{twenty, []api.File{file("", "")}, bare, api.ErrFull},
		{[]api.File{file("a", ""), file("A", "")}, twenty, 1, api.ErrName},
		{good, []api.File{file("", "")}, 0, api.ErrName},
		{[]api.File{file("abcdefghijklm", "")}, good, 0, api.ErrName},
		{good, []api.File{file("a", ""), file("b", xs(4001))}, 1, api.ErrBound},
		{[]api.File{file("a", xs(4001))}, twenty, 0, api.ErrBound},
		{[]api.File{file("a", ""), file("b", ""), file("b", "")}, good, 2, api.ErrOrder},
		{good, []api.File{file("b", ""), file("a", "")}, 1, api.ErrOrder},
	} {
		x, err := xfer.New(c.from, c.to)
		f, placed := err.(*api.Fault)
		if x != nil || placed != (c.at != bare) || !placed && err != c.err || placed && (f.At != c.at || f.Err != c.err) {
			t.Errorf("%d: %v %v, want %d %v", i, x, err, c.at, c.err)
		}
	}
}

// P3, P4: what is handed over is kept from later changes, and what lies behind it is not read.
func TestNewKeepsNothing(t *testing.T) {
	from, to := many("f", 3, 9), many("g", 3, 9)
	s := sides{slices.Clone(from[:2]), slices.Clone(to[:2])}
	x := newXfer(t, sides{from[:2], to[:2]})
	from[0], from[1].Data, to[0].Name = file("", ""), "", "A"
	if !slices.Equal(x.To(), s.to) {
		t.Error("a later change shows")
	}
	wantFinish(t, x, s)
	if want := many("f", 3, 9)[2]; from[2] != want || to[1] != s.to[1] || to[2] != many("g", 3, 9)[2] {
		t.Error("written into what was handed over")
	}
}

// P4: what is answered is new memory.
func TestToIsNew(t *testing.T) {
	s := pairs()[9]
	x := newXfer(t, s)
	for range 20 {
		l := x.To()
		was := slices.Clone(l)
		l[0] = file("z", "z")
		_ = append(l[:0], file("y", "y"))
		if !slices.Equal(x.To(), was) {
			t.Fatal("written into")
		}
		x.Do(come)
	}
	wantFinish(t, x, s)
}

// P2: the same numbers do the same, also side by side.
func TestSideBySide(t *testing.T) {
	var tasks sync.WaitGroup
	for i, s := range pairs() {
		for seed := range 3 {
			one, other := newXfer(t, s), newXfer(t, s)
			tasks.Go(func() {
				c, d := chance(seed), chance(seed)
				for k := range 400 {
					one.Do(c.number())
					other.Do(d.number())
					if one.Under() != other.Under() || one.Done() != other.Done() || !slices.Equal(one.To(), other.To()) {
						t.Errorf("pair %d, number %d: %d and %d under way", i, k, one.Under(), other.Under())
						return
					}
				}
			})
		}
	}
	tasks.Wait()
}
