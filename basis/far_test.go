package basis_test

import (
	"fmt"
	"math"
	"slices"
	"strings"
	"sync"
	"testing"

	"packhorse/api"
	"packhorse/basis"
	"packhorse/sum"
)

func wantFar(t *testing.T, l []basis.Mark, name, data string, want int) {
	t.Helper()
	if n := basis.Far(l, name, data); n != want {
		t.Errorf("far of %v, %q, %.40q: %d, want %d", l, name, data, n, want)
	}
}

func wantMarks(t *testing.T, name, data string, step int, want ...basis.Mark) {
	t.Helper()
	if l, err := basis.Marks(name, data, step); !slices.Equal(l, want) || err != nil {
		t.Errorf("marks of %q, %.40q by %d: %v, %v, want %v", name, data, step, l, err, want)
	}
}

func wantNoMarks(t *testing.T, name, data string, step int, want error) {
	t.Helper()
	if l, err := basis.Marks(name, data, step); len(l) > 0 || err != want {
		t.Errorf("marks of %q, %.40q by %d: %v, %v, want %v", name, data, step, l, err, want)
	}
}

// P131: of each step bytes, each from the front on; what is left behind the last step has none.
func TestMarks(t *testing.T) {
	const data = "123456789"
	wantMarks(t, "a", data, 9, mark("a", 9, 0xCBF43926))
	wantMarks(t, "a", data, 5, mark("a", 5, sum.Sum("12345")))
	wantMarks(t, "b.1", data, 4, mark("b.1", 4, sum.Sum("1234")), mark("b.1", 8, sum.Sum("12345678")))
	wantMarks(t, "a", data, 3, mark("a", 3, sum.Sum("123")), mark("a", 6, sum.Sum("123456")), mark("a", 9, sum.Sum(data)))
	wantMarks(t, "a", data, 10)
	wantMarks(t, "a", data, api.MaxFile)
	wantMarks(t, "a", "", 1)
	wantMarks(t, "a", "x", 1, mark("a", 1, sum.Sum("x")))
	wantMarks(t, "a", "\x00\x00", 1, mark("a", 1, 0xD202EF8D), mark("a", 2, sum.Sum("\x00\x00")))
}

// P131: each step there is of a file of each kind of length.
func TestMarksOfEachStep(t *testing.T) {
	all := strings.Repeat("packhorse", 500)
	for _, n := range []int{0, 1, 2, 63, 64, 65, 3999, api.MaxFile} {
		for step := 1; step <= api.MaxFile; step += 1 + step/7 {
			wantMarks(t, "a", all[:n], step, spelt("a", all[:n], step)...)
		}
		wantMarks(t, "a", all[:n], api.MaxFile, spelt("a", all[:n], api.MaxFile)...)
	}
}

// spelt are P131's marks, each summed for itself.
func spelt(name, data string, step int) []basis.Mark {
	var l []basis.Mark
	for k := 1; k*step <= len(data); k++ {
		l = append(l, mark(name, k*step, sum.Sum(data[:k*step])))
	}
	return l
}

// P131: the name ahead of how many bytes, and of the step.
func TestMarksWrong(t *testing.T) {
	great := strings.Repeat("x", api.MaxFile+1)
	wantMarks(t, "a", great[1:], api.MaxFile, mark("a", api.MaxFile, sum.Sum(great[1:])))
	for _, step := range []int{0, -1, math.MinInt, api.MaxFile + 1, math.MaxInt} {
		wantNoMarks(t, "a", "abc", step, api.ErrBound)
		wantNoMarks(t, "a", "", step, api.ErrBound)
		wantNoMarks(t, "a", great, step, api.ErrBound)
		wantNoMarks(t, "A", great, step, api.ErrName)
	}
	wantNoMarks(t, "a", great, 1, api.ErrBound)
	wantNoMarks(t, "a", great, api.MaxFile, api.ErrBound)
	wantNoMarks(t, "a", strings.Repeat(great, 100), 1, api.ErrBound)
	for _, name := range append(wrongNames(), " ", "a b") {
		wantNoMarks(t, name, "abc", 1, api.ErrName)
		wantNoMarks(t, name, "abc", 0, api.ErrName)
		wantNoMarks(t, name, great, 1, api.ErrName)
	}
}

// P131: as far as the greatest mark that holds; one beyond the bytes, or of other ones, does not.
func TestFar(t *testing.T) {
	const data = "abcdefghij"
	l := spelt("a", data, 3)
	for s, want := range map[string]int{
		data: 9, "abcdefghi": 9, "abcdefghiX": 9, "abcdefghi" + strings.Repeat("X", 10000): 9,
		"abcdefgh": 6, "abcdefghX": 6, "abcdef": 6, "abcde": 3, "abcdeX": 3, "abc": 3, "ab": 0, "abX": 0, "Xbcdefghij": 0, "": 0,
	} {
		wantFar(t, l, "a", s, want)
	}
}

// P131: a mark of another name is none of this file's, whatever name it is.
func TestFarName(t *testing.T) {
	l := []basis.Mark{mark("b", 3, sum.Sum("abc")), mark("a", 2, sum.Sum("ab")), mark("aa", 1, sum.Sum("a")), mark("", 1, sum.Sum("a"))}
	wantFar(t, l, "a", "abc", 2)
	wantFar(t, l, "b", "abc", 3)
	wantFar(t, l, "aa", "abc", 1)
	wantFar(t, l, "A", "abc", 0)
	wantFar(t, l, "c", "abc", 0)
	wantFar(t, nil, "a", "abc", 0)
	wantFar(t, []basis.Mark{}, "a", "abc", 0)
}

// P131: in whatever order marks stand, also several of as many bytes, or ones that are none.
func TestFarAnyOrder(t *testing.T) {
	data := "abcdef"
	good := []basis.Mark{mark("a", 4, sum.Sum("abcd")), mark("a", 2, sum.Sum("ab"))}
	bad := []basis.Mark{
		mark("a", 4, 0), mark("a", 4, sum.Sum("abcd")+1), mark("a", 6, sum.Sum("abcde")), mark("a", 5, sum.Sum("bcdef")), mark("a", 7, sum.Sum(data)),
		mark("a", math.MaxInt, 1), mark("a", math.MinInt, 1), mark("a", -1, 0), mark("a", 0, 7), mark("a", 0, 0), mark("b", 6, sum.Sum(data)), {},
	}
	wantFar(t, bad, "a", data, 0)
	c := chance(131)
	for range 300 {
		l := slices.Concat(good, bad, good[:c.below(3)])
		for k := range l {
			i := c.below(k + 1)
			l[k], l[i] = l[i], l[k]
		}
		before := slices.Clone(l)
		wantFar(t, l, "a", data, 4)
		wantFar(t, l, "a", "abX", 2)
		wantFar(t, l, "a", "abcd", 4)
		if !slices.Equal(l, before) {
			t.Fatal("marks were changed")
		}
	}
}

// P3, P4: what lies behind a list's length is neither read nor written.
func TestFarBehind(t *testing.T) {
	l := append(spelt("a", "abc", 3), spelt("a", "abcdef", 6)...)
	wantFar(t, l[:1], "a", "abcdef", 3)
	wantFar(t, l[:0], "a", "abcdef", 0)
	wantFar(t, l, "a", "abcdef", 6)
}

// P1: very many marks of very many bytes end soon, since a sum goes on from mark to mark.
func TestFarMany(t *testing.T) {
	data := strings.Repeat("x", 100000)
	var l []basis.Mark
	for n := len(data); n > 0; n-- {
		l = append(l, mark("a", n, 7))
	}
	l = append(l, mark("a", 50000, sum.Sum(data[:50000])))
	wantFar(t, l, "a", data, 50000)
}

// P4: an answer is its own.
func TestMarksApart(t *testing.T) {
	l, err := basis.Marks("a", "abcdef", 2)
	if err != nil {
		t.Fatal(err)
	}
	want := slices.Clone(l)
	for k := range l {
		l[k] = mark("z", -1, 0)
	}
	l = append(l[:1], l...)
	wantMarks(t, "a", "abcdef", 2, want...)
}

// P2: the same answers side by side.
func TestSideBySide(t *testing.T) {
	data := strings.Repeat("packhorse", 40)
	l := spelt("a", data, 7)
	var all sync.WaitGroup
	for w := range 8 {
		all.Go(func() {
			for k := range 100 {
				n := (k*13 + w) % len(data)
				if far := basis.Far(l, "a", data[:n]+"X"); far != n/7*7 {
					t.Error(w, n, far)
				}
				got, err := basis.Marks("a", data, 7)
				if err != nil || !slices.Equal(got, l) {
					t.Error(w, err)
				}
				m, err := basis.Read(fmt.Sprintf("a %d 1", n))
				if err != nil || m.N != n {
					t.Error(w, m, err)
				}
			}
		})
	}
	all.Wait()
}
