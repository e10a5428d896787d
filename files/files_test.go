package files_test

import (
	"fmt"
	"slices"
	"sort"
	"strings"
	"sync"
	"testing"

	"packhorse/api"
	"packhorse/files"
)

// The face, as it is given.
var (
	_ func(string) bool                                      = files.Name
	_ func([]api.File) error                                 = files.Check
	_ func([]api.File, string) (string, bool)                = files.Get
	_ func([]api.File, string, string) ([]api.File, error)   = files.Put
	_ func([]api.File, string) []api.File                    = files.Drop
	_ func([]api.File) ([]files.Line, error)                 = files.List
	_ func([]files.Line) (string, error)                     = files.Text
	_ func(string) ([]files.Line, error)                     = files.Read
	_ func([]files.Line, []files.Line) ([]files.Step, error) = files.Plan

	_ = struct {
		Name string
		N    int
		Sum  uint32
	}(files.Line{})
	_ = struct{ Kind, Name string }(files.Step{})
)

func file(name, data string) api.File { return api.File{Name: name, Data: data} }

func xs(n int) string { return strings.Repeat("x", n) }

// many files, whose names rise.
func many(n int) []api.File {
	var l []api.File
	for i := range n {
		l = append(l, file(fmt.Sprintf("f%02d", i), xs(i)))
	}
	return l
}

const nowhere = -1

// told: it is this error, as a Fault with its place, or bare.
func told(err error, at int, want error) bool {
	f, is := err.(*api.Fault)
	if at == nowhere {
		return err == want
	}
	return is && f.At == at && f.Err == want
}

const letters = "abcdefghijklmnopqrstuvwxyz0123456789.-"

// P70: each byte alone, at either end and in between; the edges of how many.
func TestName(t *testing.T) {
	for b := range 256 {
		c := string([]byte{byte(b)})
		want := strings.Contains(letters, c)
		for _, s := range []string{c, c + "a", "a" + c, "a" + c + "a", "abcdefghijk" + c} {
			if files.Name(s) != want {
				t.Errorf("%q: %v", s, !want)
			}
		}
	}
	for s, want := range map[string]bool{
		"": false, "a": true, ".": true, "-": true, "..": true, "0": true, "a.b-9": true,
		xs(11): true, xs(12): true, xs(13): false, xs(100000): false,
		" a": false, "a ": false, "a b": false, "a/b": false, "a_b": false, "a\n": false, "A": false, "ä": false, "a\x00": false, "ａ": false,
	} {
		if files.Name(s) != want {
			t.Errorf("%.20q: %v", s, !want)
		}
	}
}

// wrongFiles are lists with the first thing that is wrong with them.
func wrongFiles() []struct {
	l   []api.File
	at  int
	err error
} {
	big := xs(api.MaxFile + 1)
	return []struct {
		l   []api.File
		at  int
		err error
	}{
		{many(21), nowhere, api.ErrFull},
		{many(1000), nowhere, api.ErrFull},
		{make([]api.File, 21), nowhere, api.ErrFull}, // how many counts ahead of what is wrong with each
		{append(many(20), file("a", big)), nowhere, api.ErrFull},

		{[]api.File{{}}, 0, api.ErrName},
		{[]api.File{file("A", "")}, 0, api.ErrName},
		{[]api.File{file(xs(13), "")}, 0, api.ErrName},
		{[]api.File{file("a", ""), file("a b", "")}, 1, api.ErrName},
		{make([]api.File, 20), 0, api.ErrName},
		{append(many(19), file("", "")), 19, api.ErrName},
		{[]api.File{file("b", ""), file("B", big)}, 1, api.ErrName}, // of one file ErrName counts first, then ErrBound
		{[]api.File{file("b", ""), file("a_", "")}, 1, api.ErrName},

		{[]api.File{file("a", big)}, 0, api.ErrBound},
		{[]api.File{file("a", ""), file("b", xs(100000))}, 1, api.ErrBound},
		{[]api.File{file("b", ""), file("a", big)}, 1, api.ErrBound},
		{[]api.File{file("b", ""), file("b", big)}, 1, api.ErrBound},
		{append(many(19), file("z", big)), 19, api.ErrBound},

		{[]api.File{file("a", ""), file("a", "")}, 1, api.ErrOrder},
		{[]api.File{file("b", ""), file("a", "")}, 1, api.ErrOrder},
		{[]api.File{file("ab", ""), file("a", "")}, 1, api.ErrOrder},
		{[]api.File{file("b", ""), file("c", ""), file("a", "")}, 2, api.ErrOrder},
		{[]api.File{file("a", ""), file("c", ""), file("b", ""), file("d", "")}, 2, api.ErrOrder},
		{[]api.File{file("a", ""), file("9", "")}, 1, api.ErrOrder},
		{[]api.File{file("0", ""), file(".", "")}, 1, api.ErrOrder},
		{[]api.File{file(".", ""), file("-", "")}, 1, api.ErrOrder},
		{append(many(19), file("f18", "")), 19, api.ErrOrder},

		{[]api.File{file("a", big), file("", "")}, 0, api.ErrBound}, // of several files the first one counts
		{[]api.File{file("b", ""), file("a", ""), file("", big)}, 1, api.ErrOrder},
		{[]api.File{file("", ""), file("a", big), file("a", "")}, 0, api.ErrName},
	}
}

// P70: every error of a list, from each call that checks it.
func TestWrong(t *testing.T) {
	for i, c := range wrongFiles() {
		if err := files.Check(c.l); !told(err, c.at, c.err) {
			t.Errorf("%d: %v, want %v at %d", i, err, c.err, c.at)
		}
		if l, err := files.List(c.l); len(l) != 0 || !told(err, c.at, c.err) {
			t.Errorf("%d: List %v %v, want %v at %d", i, l, err, c.err, c.at)
		}
		for _, put := range []api.File{file("a", ""), file("f00", "x"), {}, file("A", xs(api.MaxFile+1)), file("zzz", "")} {
			if l, err := files.Put(c.l, put.Name, put.Data); len(l) != 0 || !told(err, c.at, c.err) {
				t.Errorf("%d: Put %q: %v %v, want %v at %d", i, put.Name, l, err, c.err, c.at)
			}
		}
	}
}

// P70: lists that are right, up to the edges.
func TestCheck(t *testing.T) {
	most := many(20)
	for i := range most {
		most[i].Data = xs(api.MaxFile)
	}
	for i, l := range [][]api.File{
		nil, {}, {file("a", "")}, {file("a", xs(api.MaxFile))}, {file(xs(12), "")}, many(19), many(20), most,
		{file("-", ""), file(".", ""), file("0", ""), file("9", ""), file("a", ""), file("z", "")},
		{file("a", ""), file("a-", ""), file("a.", ""), file("a0", ""), file("aa", ""), file("b", "")},
		{file("10", ""), file("9", "")}, // by bytes, not as numbers
	} {
		if err := files.Check(l); err != nil {
			t.Errorf("%d: %v", i, err)
		}
	}
}

// P70: Get asks nothing of the list; of several of one name the first is taken.
func TestGet(t *testing.T) {
	l := []api.File{file("a", "1"), file("a.b", ""), file("c-9", "xyz")}
	odd := []api.File{file("z", "1"), file("B !", "2"), file("a", "3"), file("", "4"), file("z", "5"), file("a", "6"), file("a", "7")}
	for _, c := range []struct {
		l          []api.File
		name, want string
		is         bool
	}{
		{l, "a", "1", true}, {l, "a.b", "", true}, {l, "c-9", "xyz", true},
		{l, "", "", false}, {l, "A", "", false}, {l, "a.", "", false}, {l, "b", "", false}, {l, "zz", "", false}, {l, xs(100), "", false},
		{nil, "a", "", false}, {nil, "", "", false}, {[]api.File{}, "a", "", false},
		{odd, "z", "1", true}, {odd, "B !", "2", true}, {odd, "a", "3", true}, {odd, "", "4", true}, {odd, "b", "", false},
		{[]api.File{file("a", "1"), file("a", "2")}, "a", "1", true},
		{many(1000), "f500", xs(500), true},
	} {
		if s, is := files.Get(c.l, c.name); s != c.want || is != c.is {
			t.Errorf("%v: %q: %q %v", c.l, c.name, s, is)
		}
	}
}

// P70: in the place of what is there, or new, at either end and in between.
func TestPut(t *testing.T) {
	l := []api.File{file("b", "1"), file("d", "2")}
	for _, c := range []struct {
		l    []api.File
		put  api.File
		want []api.File
	}{
		{nil, file("a", "x"), []api.File{file("a", "x")}},
		{nil, file(xs(12), ""), []api.File{file(xs(12), "")}},
		{[]api.File{}, file("a", xs(api.MaxFile)), []api.File{file("a", xs(api.MaxFile))}},
		{l, file("a", "x"), []api.File{file("a", "x"), l[0], l[1]}},
		{l, file("c", ""), []api.File{l[0], file("c", ""), l[1]}},
		{l, file("b.", "x"), []api.File{l[0], file("b.", "x"), l[1]}},
		{l, file("e", "x"), []api.File{l[0], l[1], file("e", "x")}},
		{l, file("b", "x"), []api.File{file("b", "x"), l[1]}},
		{l, file("d", ""), []api.File{l[0], file("d", "")}},
		{l, file("b", "1"), l},
		{l, file("d", xs(api.MaxFile)), []api.File{l[0], file("d", xs(api.MaxFile))}},
		{many(19), file("z", ""), append(many(19), file("z", ""))},
		{many(20), file("f00", "new"), append([]api.File{file("f00", "new")}, many(20)[1:]...)},
		{many(20), file("f19", "new"), append(many(19), file("f19", "new"))},
	} {
		if got, err := files.Put(c.l, c.put.Name, c.put.Data); !slices.Equal(got, c.want) || err != nil {
			t.Errorf("%v: put %.20q: %v %v", c.l, c.put, got, err)
		}
	}
}

// P70: what would be wrong is told where it would stand.
func TestPutWrong(t *testing.T) {
	l, big := []api.File{file("b", "1"), file("d", "2")}, xs(api.MaxFile+1)
	for _, c := range []struct {
		l   []api.File
		put api.File
		at  int
		err error
	}{
		{nil, api.File{}, 0, api.ErrName},
		{l, file("", "x"), 0, api.ErrName},
		{l, file("A", "x"), 0, api.ErrName},
		{l, file("b ", "x"), 1, api.ErrName},
		{l, file("bbbbbbbbbbbbb", "x"), 1, api.ErrName},
		{l, file("dä", big), 2, api.ErrName},
		{l, file("\xff", ""), 2, api.ErrName},
		{nil, file("a", big), 0, api.ErrBound},
		{l, file("a", big), 0, api.ErrBound},
		{l, file("c", big), 1, api.ErrBound},
		{l, file("e", big), 2, api.ErrBound},
		{l, file("b", big), 0, api.ErrBound},
		{l, file("d", big), 1, api.ErrBound},
		{many(20), file("f07", big), 7, api.ErrBound},
		{many(20), file("z", ""), nowhere, api.ErrFull},
		{many(20), file("a", big), nowhere, api.ErrFull},
		{many(20), file("", ""), nowhere, api.ErrFull},
		{many(20), file("f07 ", ""), nowhere, api.ErrFull},
	} {
		if got, err := files.Put(c.l, c.put.Name, c.put.Data); len(got) != 0 || !told(err, c.at, c.err) {
			t.Errorf("%v: put %.20q: %v %v, want %v at %d", c.l, c.put, got, err, c.err, c.at)
		}
	}
}

// P70: Drop asks nothing of the list either; no file of that name is left.
func TestDrop(t *testing.T) {
	l := []api.File{file("b", "1"), file("d", "2"), file("e", "")}
	odd := []api.File{file("z", "1"), file("", "2"), file("a", "3"), file("z", "4")}
	for _, c := range []struct {
		l    []api.File
		name string
		want []api.File
	}{
		{nil, "a", nil}, {nil, "", nil}, {[]api.File{}, "a", nil},
		{l, "b", l[1:]}, {l, "d", []api.File{l[0], l[2]}}, {l, "e", l[:2]}, {l[:1], "b", nil},
		{l, "a", l}, {l, "c", l}, {l, "f", l}, {l, "", l}, {l, "B", l},
		{odd, "z", odd[1:3]}, {odd, "", []api.File{odd[0], odd[2], odd[3]}}, {odd, "b", odd},
		{[]api.File{file("a", "1"), file("a", "2")}, "a", nil},
	} {
		if got := files.Drop(c.l, c.name); !slices.Equal(got, c.want) {
			t.Errorf("%v: drop %q: %v", c.l, c.name, got)
		}
	}
}

// P73: what was put is got, and what was dropped is not; all else stays: held against a map of what there should be.
func TestAlways(t *testing.T) {
	there := map[string]string{}
	var l []api.File
	for i := range 3000 {
		name := string(letters[i*i*31%37]) + string(letters[i*7%5])
		data := fmt.Sprint(i)
		if i%3 == 2 {
			l = files.Drop(l, name)
			delete(there, name)
		} else if next, err := files.Put(l, name, data); err == nil {
			l, there[name] = next, data
		} else if !told(err, nowhere, api.ErrFull) || len(there) != api.MaxFiles {
			t.Fatal(i, name, err)
		}
		wantFiles(t, l, there)
	}
}

func wantFiles(t *testing.T, l []api.File, there map[string]string) {
	t.Helper()
	var names []string
	for name, data := range there {
		names = append(names, name)
		if s, is := files.Get(l, name); s != data || !is {
			t.Fatalf("%q: %q %v, want %q", name, s, is, data)
		}
	}
	sort.Strings(names)
	if len(l) != len(names) || files.Check(l) != nil {
		t.Fatal(l, names)
	}
	for i, f := range l {
		if f.Name != names[i] {
			t.Fatal(l, names)
		}
	}
}

// P2: what is answered is the same each time, also side by side.
func TestSideBySide(t *testing.T) {
	l := many(20)
	lines, _ := files.List(l)
	text, _ := files.Text(lines)
	steps, _ := files.Plan(lines[:15], lines[5:])
	var all sync.WaitGroup
	for range 8 {
		all.Go(func() {
			for range 50 {
				a, _ := files.List(l)
				b, _ := files.Text(lines)
				c, _ := files.Read(text)
				d, _ := files.Plan(lines[:15], lines[5:])
				e, _ := files.Put(l, "f03", "new")
				f, _ := files.Get(l, "f03")
				if !slices.Equal(a, lines) || b != text || !slices.Equal(c, lines) || !slices.Equal(d, steps) || e[3].Data != "new" || f != "xxx" || len(files.Drop(l, "f04")) != 19 {
					t.Error("another answer")
				}
			}
		})
	}
	all.Wait()
}

// P4: lists that come in are only read, those that go out are new; P3: nothing behind a list's length counts.
func TestMemory(t *testing.T) {
	room := []api.File{file("b", "1"), file("d", "2"), file("e", "3"), file("!", "behind")}
	was := slices.Clone(room)
	l := room[:3]
	for range 2 {
		for _, put := range []api.File{file("a", "x"), file("c", "x"), file("f", "x"), file("d", "x")} {
			got, err := files.Put(l, put.Name, put.Data)
			if s, is := files.Get(got, put.Name); s != "x" || !is || err != nil {
				t.Error(got, err)
			}
			spoil(got)
		}
		for _, name := range []string{"a", "b", "d", "e", "!"} {
			got := files.Drop(l, name)
			if s, is := files.Get(got, name); s != "" || is {
				t.Error(got)
			}
			spoil(got)
		}
		if _, is := files.Get(l, "!"); is {
			t.Error("behind the list")
		}
		if lines, err := files.List(l); len(lines) != 3 || err != nil || files.Check(l) != nil {
			t.Error(lines, err)
		}
		if !slices.Equal(room, was) {
			t.Fatalf("%v, was %v", room, was)
		}
	}
	_, one := files.Put(l, "A", "")
	one.(*api.Fault).At = 7
	if _, two := files.Put(l, "A", ""); !told(two, 0, api.ErrName) {
		t.Error(two)
	}
}

// spoil what was answered, also behind its length.
func spoil(l []api.File) {
	l = l[:cap(l)]
	for i := range l {
		l[i] = file("spoilt", "")
	}
}

// asked is what P70 says of Check, word by word.
func asked(l []api.File) (int, error) {
	if len(l) > 20 {
		return nowhere, api.ErrFull
	}
	for i, f := range l {
		if n := len(f.Name); n < 1 || n > 12 || strings.Trim(f.Name, letters) != "" || strings.ContainsFunc(f.Name, func(r rune) bool { return !strings.ContainsRune(letters, r) }) {
			return i, api.ErrName
		}
		if len(f.Data) > 4000 {
			return i, api.ErrBound
		}
		if i > 0 && strings.Compare(l[i-1].Name, f.Name) >= 0 {
			return i, api.ErrOrder
		}
	}
	return nowhere, nil
}

// FuzzPut holds P70 and P73 against any names.
func FuzzPut(f *testing.F) {
	f.Add("a b c d", "b", "x", 1)
	f.Add("a b c", "bb", "", 4000)
	f.Add("a b b c", "b", "x", 1)
	f.Add("b a", "B", "x", 4001)
	f.Add("", "", "", 0)
	f.Add("a b c d e f g h i j k l m n o p q r s t", "u", "x", 1)
	f.Fuzz(func(t *testing.T, names, name, data string, times int) {
		var l []api.File
		for i, n := range strings.Fields(names) {
			l = append(l, file(n, xs(i)))
		}
		data = strings.Repeat(data, max(0, min(times, 5000)))
		at, bad := asked(l)
		if err := files.Check(l); !told(err, at, bad) {
			t.Errorf("%q: %v, want %v at %d", names, err, bad, at)
		}
		got, err := files.Put(l, name, data)
		if bad != nil {
			if len(got) != 0 || !told(err, at, bad) {
				t.Errorf("%q: %v %v, want %v at %d", names, got, err, bad, at)
			}
			return
		}
		want := append(files.Drop(l, name), file(name, data))
		sort.Slice(want, func(i, k int) bool { return want[i].Name < want[k].Name })
		if at, bad = asked(want); bad != nil {
			want = nil
		}
		if !slices.Equal(got, want) || !told(err, at, bad) {
			t.Errorf("%q, %q: %v %v, want %v, %v at %d", names, name, got, err, want, bad, at)
		}
		if s, is := files.Get(got, name); bad == nil && (s != data || !is) {
			t.Errorf("%q: %q %v", name, s, is)
		}
	})
}
