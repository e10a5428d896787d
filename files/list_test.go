package files_test

import (
	"fmt"
	"math"
	"slices"
	"sort"
	"strings"
	"testing"

	"packhorse/api"
	"packhorse/files"
	"packhorse/num"
	"packhorse/sum"
)

func line(name string, n int, c uint32) files.Line { return files.Line{Name: name, N: n, Sum: c} }

// manyLines, whose names rise.
func manyLines(n int) []files.Line {
	var l []files.Line
	for i := range n {
		l = append(l, line(fmt.Sprintf("f%02d", i), i, uint32(i*i)))
	}
	return l
}

// P71: the name, how many bytes, and the sum of each file.
func TestList(t *testing.T) {
	for _, c := range []struct {
		l    []api.File
		want []files.Line
	}{
		{nil, nil},
		{[]api.File{}, nil},
		{[]api.File{file("a", "")}, []files.Line{line("a", 0, 0)}},
		{[]api.File{file("a", "123456789"), file("b", "abc")}, []files.Line{line("a", 9, 0xCBF43926), line("b", 3, 0x352441c2)}},
		{[]api.File{file("z", xs(api.MaxFile))}, []files.Line{line("z", api.MaxFile, sum.Sum(xs(api.MaxFile)))}},
	} {
		if l, err := files.List(c.l); !slices.Equal(l, c.want) || err != nil {
			t.Errorf("%v: %v %v", c.l, l, err)
		}
	}
	all := many(20)
	l, err := files.List(all)
	if len(l) != 20 || err != nil {
		t.Fatal(l, err)
	}
	for i, f := range all {
		if l[i] != line(f.Name, len(f.Data), sum.Sum(f.Data)) {
			t.Error(i, l[i])
		}
	}
}

// wrongLines are lists with the first thing that is wrong with them.
func wrongLines() []struct {
	l   []files.Line
	at  int
	err error
} {
	return []struct {
		l   []files.Line
		at  int
		err error
	}{
		{manyLines(21), nowhere, api.ErrFull},
		{make([]files.Line, 21), nowhere, api.ErrFull},

		{[]files.Line{{}}, 0, api.ErrName},
		{[]files.Line{line("a", 1, 2), line("B", 1, 2)}, 1, api.ErrName},
		{[]files.Line{line(xs(13), 1, 2)}, 0, api.ErrName},
		{[]files.Line{line(xs(api.MaxText+1), 1, 2)}, 0, api.ErrName},
		{[]files.Line{line("b", 1, 2), line("a_", -1, 2)}, 1, api.ErrName}, // of one line ErrName counts first, then ErrBound
		{append(manyLines(19), line("", 0, 0)), 19, api.ErrName},

		{[]files.Line{line("a", -1, 2)}, 0, api.ErrBound},
		{[]files.Line{line("a", api.MaxFile+1, 2)}, 0, api.ErrBound},
		{[]files.Line{line("a", math.MinInt, 2)}, 0, api.ErrBound},
		{[]files.Line{line("a", math.MaxInt, 2)}, 0, api.ErrBound},
		{[]files.Line{line("a", 0, 2), line("b", 1<<32, 2)}, 1, api.ErrBound},
		{[]files.Line{line("b", 0, 2), line("a", 4001, 2)}, 1, api.ErrBound},

		{[]files.Line{line("a", 1, 2), line("a", 1, 2)}, 1, api.ErrOrder},
		{[]files.Line{line("b", 1, 2), line("a", 1, 2)}, 1, api.ErrOrder},
		{[]files.Line{line("a", 1, 2), line("c", 1, 2), line("b", 1, 2)}, 2, api.ErrOrder},
		{[]files.Line{line("9", 1, 2), line("10", 1, 2)}, 1, api.ErrOrder},

		{[]files.Line{line("a", -1, 2), line("", 1, 2)}, 0, api.ErrBound}, // of several lines the first one counts
		{[]files.Line{line("b", 1, 2), line("a", 1, 2), line("", 1, 2)}, 1, api.ErrOrder},
	}
}

// P71, P72: every error of lines, from each call that checks them; Plan's of from ahead of those of to.
func TestLinesWrong(t *testing.T) {
	for i, c := range wrongLines() {
		if s, err := files.Text(c.l); s != "" || !told(err, c.at, c.err) {
			t.Errorf("%d: Text %q %v, want %v at %d", i, s, err, c.err, c.at)
		}
		for k, other := range wrongLines() {
			if l, err := files.Plan(c.l, other.l); len(l) != 0 || !told(err, c.at, c.err) {
				t.Errorf("%d, %d: Plan %v %v, want %v at %d", i, k, l, err, c.err, c.at)
			}
		}
		for _, other := range [][]files.Line{nil, manyLines(1), manyLines(20)} {
			if l, err := files.Plan(c.l, other); len(l) != 0 || !told(err, c.at, c.err) {
				t.Errorf("%d: Plan from %v %v, want %v at %d", i, l, err, c.err, c.at)
			}
			if l, err := files.Plan(other, c.l); len(l) != 0 || !told(err, c.at, c.err) {
				t.Errorf("%d: Plan to %v %v, want %v at %d", i, l, err, c.err, c.at)
			}
		}
	}
}

func putNum(n int) string {
	s, err := num.Put(n)
	if err != nil {
		panic(err)
	}
	return s
}

// spelt out: the bytes of lines, whatever they are.
func spelt(l ...files.Line) string {
	all := putNum(len(l))
	for _, x := range l {
		name, err := num.PutText(x.Name)
		if err != nil {
			panic(err)
		}
		all += name + putNum(x.N) + putNum(int(x.Sum))
	}
	return all
}

// P71: the bytes, and what they are read as.
func TestText(t *testing.T) {
	for s, l := range map[string][]files.Line{
		"\x00":                           nil,
		"\x01\x01a\x00\x00":              {line("a", 0, 0)},
		"\x01\x02a.\xac\x02\x80\x01":     {line("a.", 300, 128)},
		"\x02\x01a\x01\x02\x01b\x03\x04": {line("a", 1, 2), line("b", 3, 4)},
		"\x01\x0c" + xs(12) + "\xa0\x1f\xff\xff\xff\xff\x0f": {line(xs(12), api.MaxFile, math.MaxUint32)},
	} {
		wantBytes(t, l, s)
	}
	for n := range 21 {
		wantBytes(t, manyLines(n), spelt(manyLines(n)...))
	}
}

func wantBytes(t *testing.T, l []files.Line, want string) {
	t.Helper()
	if s, err := files.Text(l); s != want || err != nil {
		t.Errorf("%v: %q %v, want %q", l, s, err, want)
	}
	if back, err := files.Read(want); !slices.Equal(back, l) || err != nil {
		t.Errorf("%q: %v %v, want %v", want, back, err, l)
	}
}

// P71: what is not just a list, in the order in which it is told, and always bare.
func TestReadWrong(t *testing.T) {
	const above = "\x81\x80\x80\x80\x80\x20" // MaxNum and 1
	a, b := line("a", 1, 2), line("b", 3, 4)
	one := spelt(a)
	for s, want := range map[string]error{
		"":                                   api.ErrText,
		"\x80":                               api.ErrText,
		"\x80\x00":                           api.ErrText,
		"\x00\x00":                           api.ErrText,
		"\x01":                               api.ErrText,
		"\x01\x01":                           api.ErrText,
		"\x01\x02a":                          api.ErrText,
		one + "\x00":                         api.ErrText,
		"\x02" + one[1:]:                     api.ErrText,
		"\x00" + one[1:]:                     api.ErrText,
		"\x01\x01a\x80\x00\x00":              api.ErrText,
		"\x01\x01a\x00\x80\x00":              api.ErrText,
		"\x01\x81\x00a\x00\x00":              api.ErrText,
		"\x01\x01a\x00" + putNum(1<<32):      api.ErrText,
		"\x01\x01a\x00" + putNum(api.MaxNum): api.ErrText,
		putNum(api.MaxNum):                   api.ErrText, // far more lines than there are
		putNum(api.MaxNum) + one[1:]:         api.ErrText,
		"\x01" + putNum(api.MaxText) + "abc": api.ErrText,

		above:                                   api.ErrBound,
		"\x01" + above:                          api.ErrBound,
		"\x01\x01a" + above:                     api.ErrBound,
		"\x01\x01a\x00" + above:                 api.ErrBound,
		"\x01" + putNum(api.MaxText+1):          api.ErrBound,
		"\x01" + putNum(api.MaxNum) + "abc":     api.ErrBound,
		above + "\x80":                          api.ErrBound, // the first error ends it
		"\x02\x01a\x00" + above + "\x80\x00":    api.ErrBound,
		"\x02\x01a\x00" + putNum(1<<32) + above: api.ErrText,

		spelt(files.Line{}):                   api.ErrName,
		spelt(line("A", 0, 0)):                api.ErrName,
		spelt(line(xs(13), 0, 0)):             api.ErrName,
		spelt(line(xs(api.MaxText), 0, 0)):    api.ErrName,
		spelt(a, line("", api.MaxNum, 0)):     api.ErrName,
		spelt(line("a", api.MaxFile+1, 0)):    api.ErrBound,
		spelt(line("a", api.MaxNum, 0)):       api.ErrBound,
		spelt(b, line("a", api.MaxFile+1, 0)): api.ErrBound,
		spelt(b, a):                           api.ErrOrder,
		spelt(a, a):                           api.ErrOrder,
		spelt(b, a, line("", 0, 0)):           api.ErrOrder,
		spelt(manyLines(21)...):               api.ErrFull,
		spelt(make([]files.Line, 21)...):      api.ErrFull,
		spelt(make([]files.Line, 1000)...):    api.ErrFull,

		spelt(files.Line{}) + "x":                 api.ErrText, // what is no list's text is not checked as one
		spelt(manyLines(21)...) + "\x00":          api.ErrText,
		spelt(b, a) + "\x00":                      api.ErrText,
		"\x02\x01A\x00\x00\x01a" + above:          api.ErrBound,
		"\x01\x01A\x00" + putNum(1<<32):           api.ErrText,
		"\x01\x01a" + putNum(api.MaxNum) + "\x80": api.ErrText,
	} {
		if l, err := files.Read(s); len(l) != 0 || err != want {
			t.Errorf("%.40q: %v %v, want %v", s, l, err, want)
		}
	}
}

// P71: a list that ends early is none.
func TestReadCut(t *testing.T) {
	lines, _ := files.List(many(20))
	s, _ := files.Text(lines)
	for i := range len(s) {
		if l, err := files.Read(s[:i]); len(l) != 0 || err != api.ErrText {
			t.Errorf("%d: %v %v", i, l, err)
		}
	}
}

// P71: each list is written in one way: with any byte turned, it is another one or none.
func TestReadTurned(t *testing.T) {
	lines, _ := files.List([]api.File{file("a", "123456789"), file("b.c", xs(300)), file("d-9", "")})
	s, _ := files.Text(lines)
	for i := range len(s) {
		for b := range 256 {
			turned := s[:i] + string([]byte{byte(b)}) + s[i+1:]
			readOneWay(t, turned)
			if back, _ := files.Read(turned); turned != s && slices.Equal(back, lines) {
				t.Errorf("byte %d as %d: the same", i, b)
			}
		}
	}
}

// readOneWay: what is read is written as it stood; what is not read answers nothing but a bare error.
func readOneWay(t *testing.T, s string) {
	t.Helper()
	l, err := files.Read(s)
	if err != nil {
		if len(l) != 0 || !slices.Contains([]error{api.ErrText, api.ErrBound, api.ErrFull, api.ErrName, api.ErrOrder}, err) {
			t.Errorf("%q: %v %v", s, l, err)
		}
		return
	}
	if back, err := files.Text(l); back != s || err != nil {
		t.Errorf("%q: %q %v", s, back, err)
	}
}

func step(kind, name string) files.Step { return files.Step{Kind: kind, Name: name} }

// P72: each kind, and how names of both lists stand to each other.
func TestPlan(t *testing.T) {
	a, b, c := line("a", 1, 2), line("b", 3, 4), line("c", 5, 6)
	for _, x := range []struct {
		from, to []files.Line
		want     []files.Step
	}{
		{nil, nil, nil},
		{[]files.Line{}, nil, nil},
		{[]files.Line{a}, nil, []files.Step{step("send", "a")}},
		{nil, []files.Line{a}, []files.Step{step("drop", "a")}},
		{[]files.Line{a}, []files.Line{a}, []files.Step{step("keep", "a")}},
		{[]files.Line{a}, []files.Line{line("a", 2, 2)}, []files.Step{step("send", "a")}},
		{[]files.Line{a}, []files.Line{line("a", 1, 3)}, []files.Step{step("send", "a")}},
		{[]files.Line{a}, []files.Line{line("a", 2, 1)}, []files.Step{step("send", "a")}},
		{[]files.Line{line("a", 0, 0)}, []files.Line{line("a", 0, 0)}, []files.Step{step("keep", "a")}},
		{[]files.Line{line("a", 0, math.MaxUint32)}, []files.Line{line("a", 0, 0)}, []files.Step{step("send", "a")}},
		{[]files.Line{a}, []files.Line{b}, []files.Step{step("send", "a"), step("drop", "b")}},
		{[]files.Line{b}, []files.Line{a}, []files.Step{step("drop", "a"), step("send", "b")}},
		{[]files.Line{a, b, c}, []files.Line{b}, []files.Step{step("send", "a"), step("keep", "b"), step("send", "c")}},
		{[]files.Line{b}, []files.Line{a, b, c}, []files.Step{step("drop", "a"), step("keep", "b"), step("drop", "c")}},
		{[]files.Line{a, c}, []files.Line{b}, []files.Step{step("send", "a"), step("drop", "b"), step("send", "c")}},
		{[]files.Line{a, c}, []files.Line{a, b, line("c", 5, 7)}, []files.Step{step("keep", "a"), step("drop", "b"), step("send", "c")}},
		{[]files.Line{line("aa", 1, 2)}, []files.Line{a}, []files.Step{step("drop", "a"), step("send", "aa")}}, // alike, but for the name
		{[]files.Line{line("10", 1, 2)}, []files.Line{line("9", 1, 2)}, []files.Step{step("send", "10"), step("drop", "9")}},
	} {
		if l, err := files.Plan(x.from, x.to); !slices.Equal(l, x.want) || err != nil {
			t.Errorf("%v, %v: %v %v, want %v", x.from, x.to, l, err, x.want)
		}
	}
}

// planAsked is what P72 says, word by word: name by name.
func planAsked(from, to []files.Line) []files.Step {
	named := func(l []files.Line, name string) (files.Line, bool) {
		for _, x := range l {
			if x.Name == name {
				return x, true
			}
		}
		return files.Line{}, false
	}
	var names []string
	for _, x := range slices.Concat(from, to) {
		names = append(names, x.Name)
	}
	sort.Strings(names)
	var steps []files.Step
	for _, name := range slices.Compact(names) {
		a, of := named(from, name)
		b, at := named(to, name)
		switch {
		case !at:
			steps = append(steps, step("send", name))
		case !of:
			steps = append(steps, step("drop", name))
		case a.N == b.N && a.Sum == b.Sum:
			steps = append(steps, step("keep", name))
		default:
			steps = append(steps, step("send", name))
		}
	}
	return steps
}

// P72: all that three names may be, of either list; and as many as there may be.
func TestPlanAll(t *testing.T) {
	var lists [][]files.Line
	for k := range 27 {
		var l []files.Line
		for _, name := range []string{"a", "b", "c"} {
			if k%3 > 0 {
				l = append(l, line(name, 1, uint32(k%3)))
			}
			k /= 3
		}
		lists = append(lists, l)
	}
	evens, odds := manyLines(20), manyLines(20)
	for i := range evens {
		evens[i].Name, odds[i].Name = fmt.Sprintf("%02d", 2*i), fmt.Sprintf("%02d", 2*i+1)
	}
	lists = append(lists, manyLines(20), evens, odds)
	for _, from := range lists {
		for _, to := range lists {
			if l, err := files.Plan(from, to); !slices.Equal(l, planAsked(from, to)) || err != nil {
				t.Errorf("%v, %v: %v %v", from, to, l, err)
			}
		}
	}
}

// P73: of what is alike all is kept.
func TestKept(t *testing.T) {
	for n := range 21 {
		one, _ := files.List(many(n))
		two, _ := files.List(many(n))
		l, err := files.Plan(one, two)
		if len(l) != n || err != nil {
			t.Fatal(n, l, err)
		}
		for i, x := range l {
			if x != step("keep", one[i].Name) {
				t.Error(n, i, x)
			}
		}
	}
}

// P4, P3: as of files, so of lines.
func TestLinesMemory(t *testing.T) {
	room := append(manyLines(3), line("!", -1, 9))
	was := slices.Clone(room)
	l := room[:3]
	s, err := files.Text(l)
	if s != spelt(l...) || err != nil {
		t.Errorf("%q %v", s, err)
	}
	steps, err := files.Plan(l, l[:2])
	if len(steps) != 3 || err != nil {
		t.Error(steps, err)
	}
	steps[0] = files.Step{}
	if again, _ := files.Plan(l, l[:2]); !slices.Equal(again, planAsked(l, l[:2])) {
		t.Error(again)
	}
	back, _ := files.Read(s)
	back[0] = files.Line{}
	if again, _ := files.Read(s); !slices.Equal(again, l) {
		t.Error(again)
	}
	if !slices.Equal(room, was) {
		t.Errorf("%v, was %v", room, was)
	}
}

// FuzzRead holds P71 against any bytes.
func FuzzRead(f *testing.F) {
	f.Add("")
	f.Add(spelt())
	f.Add(spelt(manyLines(3)...))
	f.Add(spelt(manyLines(21)...))
	f.Add(spelt(line("b", 1, 2), line("a", 1, 2)))
	f.Add("\x01\x01a\x00\x80\x80\x80\x80\x10")
	f.Add("\x80\x80\x80\x80\x80\x20\x01a\x00\x00")
	f.Fuzz(readOneWay)
}

// FuzzPlan holds P72 and P73 against any two trees: the names of one, and those of another one.
func FuzzPlan(f *testing.F) {
	f.Add("a b c", "b c d", byte(1))
	f.Add("", "a", byte(0))
	f.Add("a.b a-b", "a", byte(2))
	f.Fuzz(func(t *testing.T, one, two string, by byte) {
		from, to := tree(one, 0), tree(two, by)
		a, _ := files.List(from)
		b, _ := files.List(to)
		l, err := files.Plan(a, b)
		if !slices.Equal(l, planAsked(a, b)) || err != nil {
			t.Errorf("%q, %q: %v %v", one, two, l, err)
		}
		for _, x := range l {
			switch s, is := files.Get(from, x.Name); x.Kind {
			case "drop":
				to = files.Drop(to, x.Name)
			case "send", "keep":
				if to, err = files.Put(to, x.Name, s); !is || err != nil {
					return // more than there may be at once
				}
			}
		}
		if !slices.Equal(to, from) {
			t.Errorf("%v, want %v", to, from)
		}
	})
}

// tree of the names that are ones, with few unlike data.
func tree(names string, by byte) []api.File {
	var l []api.File
	for _, name := range strings.Fields(names) {
		if next, err := files.Put(l, name, xs(len(name)%3+int(by&1))); err == nil {
			l = next
		}
	}
	return l
}
