package gate_test

import (
	"fmt"
	"slices"
	"strings"
	"testing"

	"packhorse/api"
	"packhorse/gate"
)

func wantText(t *testing.T, g *gate.Gate, want string) {
	t.Helper()
	if s := g.Text(); s != want {
		t.Errorf("text %q, want %q", s, want)
	}
}

// wantRead is the gate of a text that is one, and tells the same text.
func wantRead(t *testing.T, s string) *gate.Gate {
	t.Helper()
	g, err := gate.Read(s)
	if err != nil || g == nil {
		t.Fatalf("read %q: %v", s, err)
	}
	wantText(t, g, s)
	return g
}

func wantNoRead(t *testing.T, s string, at int, want error) {
	t.Helper()
	g, err := gate.Read(s)
	f, is := err.(*api.Fault)
	if g != nil || !is || f.At != at || f.Err != want {
		t.Errorf("read %.80q: %v, %#v, want %v at %d", s, g != nil, err, want, at)
	}
}

// lines of so many tokens, t00 and so on, whose epochs are 1, 2 and so on.
func lines(n int) string {
	s := ""
	for k := range n {
		s += fmt.Sprintf("t%02d %d\n", k, k+1)
	}
	return s
}

// P111: by tokens, not by when they came; by their bytes.
func TestText(t *testing.T) {
	g := gate.New()
	wantText(t, g, "")
	wantOpen(t, g, "b", 1)
	wantText(t, g, "b 1\n")
	wantSet(t, g, "a", 10, 10)
	wantText(t, g, "a 10\nb 1\n")
	for _, token := range []string{"b.", "a0", "-", "aa", "9", ".", "10", "b-"} {
		wantOpen(t, g, token, 1)
	}
	want := "- 1\n. 1\n10 1\n9 1\na 10\na0 1\naa 1\nb 1\nb- 1\nb. 1\n"
	for range 5 {
		wantText(t, g, want)
	}
	wantSet(t, g, "a", api.MaxEpoch, api.MaxEpoch)
	wantText(t, g, strings.Replace(want, "a 10", "a 2147483648", 1))
}

// P111: whatever the order in which tokens come, they are told in theirs.
func TestTextAnyOrder(t *testing.T) {
	c := chance(111)
	for range 200 {
		left := make([]int, api.MaxTokens)
		for k := range left {
			left[k] = k
		}
		g := gate.New()
		for len(left) > 0 {
			i := c.below(len(left))
			wantSet(t, g, fmt.Sprintf("t%02d", left[i]), left[i]+1, left[i]+1)
			left = slices.Delete(left, i, i+1)
		}
		wantText(t, g, lines(api.MaxTokens))
	}
}

// P111: a text of each number of tokens is read, and what it says holds.
func TestRead(t *testing.T) {
	for n := range api.MaxTokens + 1 {
		g := wantRead(t, lines(n))
		for k := range n {
			wantLast(t, g, fmt.Sprintf("t%02d", k), k+1)
		}
		wantNone(t, g, fmt.Sprintf("t%02d", n))
		wantNone(t, g, "")
	}
	g := wantRead(t, "- 1\n-1 2\n. 3\n0 4\na 9\na- 10\nabcdefghijkl 2147483647\nb 2147483648\n")
	wantLast(t, g, "-", 1)
	wantLast(t, g, "abcdefghijkl", api.MaxEpoch-1)
	wantOpen(t, g, "abcdefghijkl", api.MaxEpoch)
	wantNoOpen(t, g, "b", api.ErrBound)
	wantOpen(t, g, "a", 10)
	wantSet(t, g, "-", 3, 3)
}

// P111, P110: what was read is as full as it is.
func TestReadFull(t *testing.T) {
	g := wantRead(t, lines(api.MaxTokens))
	wantNoOpen(t, g, "u", api.ErrFull)
	wantNoSet(t, g, "u", 1, api.ErrFull)
	wantOpen(t, g, "t07", 9)
	g = wantRead(t, lines(api.MaxTokens-1))
	wantOpen(t, g, "u", 1)
	wantNoOpen(t, g, "v", api.ErrFull)
}

// wrongLines with what is wrong with each, wherever it stands behind lines whose tokens are below "w".
func wrongLines() map[string]error {
	l := map[string]error{
		"w 0\n": api.ErrBound, "w 2147483649\n": api.ErrBound, "w 9999999999\n": api.ErrBound, "w 4294967297\n": api.ErrBound,
		" 1\n": api.ErrName, "W 1\n": api.ErrName, "w_ 1\n": api.ErrName, "wabcdefghijkl 1\n": api.ErrName, "w\x00 1\n": api.ErrName,
		"w\r 1\n": api.ErrName, "w\t 1\n": api.ErrName, "ä 1\n": api.ErrName, "w\xff 1\n": api.ErrName,
		"- 1\n": api.ErrOrder, "- 2147483648\n": api.ErrOrder,
	}
	for _, s := range []string{
		"w", "w ", "w 1", " ", "w\n", "w \n", "\n", " \n", "1\n", "w1\n", "w:1\n", "w\t1\n", "w 1\x00\n",
		"w 1 \n", "w  1\n", " w 1\n", "w 1 1\n", "w w 1\n", "w 1\r\n", "w 1\t\n", "w 1\r",
		"w 01\n", "w 00\n", "w 0000000001\n", "w 1.\n", "w 1.0\n", "w +1\n", "w -1\n", "w -0\n", "w -\n", "w x\n", "w 1x\n", "w x1\n", "w 0x1\n", "w 1e3\n", "w 1_0\n", "w ١\n", "w \xff\n",
		"w 12345678901\n", "w 00000000001\n", "w 10000000000\n", "w -9999999999\n", "w 18446744073709551617\n", "w " + strings.Repeat("9", 100000) + "\n",
		strings.Repeat("w", 100000), strings.Repeat(" ", 100000) + "\n",
	} {
		l[s] = api.ErrText
	}
	return l
}

// P111: each thing that is wrong, at each line; the first one that is wrong is told, and what stands behind it is not read.
func TestReadWrong(t *testing.T) {
	for s, want := range wrongLines() {
		for _, ahead := range []int{0, 1, 2, 19, 20} {
			behind := []string{"", "x 1\n", "A 1\n", "x", "\n"}
			if !strings.HasSuffix(s, "\n") {
				behind = behind[:1]
			}
			for _, more := range behind {
				if want == api.ErrOrder && ahead == 0 {
					continue // nothing is ahead that it could be below
				}
				wantNoRead(t, lines(ahead)+s+more, ahead, want)
			}
		}
	}
}

// P111: tokens rise by their bytes, and are not twice there.
func TestReadOrder(t *testing.T) {
	for _, c := range [][2]string{{"a", "b"}, {"a", "aa"}, {"-", "."}, {".", "0"}, {"9", "a"}, {"10", "9"}, {"a.z", "aa"}, {"zzzzzzzzzzz", "zzzzzzzzzzzz"}} {
		wantRead(t, c[0]+" 2\n"+c[1]+" 1\n")
		wantNoRead(t, c[1]+" 1\n"+c[0]+" 2\n", 1, api.ErrOrder)
		for _, token := range c {
			wantNoRead(t, token+" 1\n"+token+" 1\n", 1, api.ErrOrder)
			wantNoRead(t, token+" 1\n"+token+" 2\n", 1, api.ErrOrder)
		}
	}
	wantNoRead(t, "a 1\nc 1\nb 1\nd 1\n", 2, api.ErrOrder)
	wantNoRead(t, "a 1\nb 1\na 1\n", 2, api.ErrOrder)
}

// P111: more than MaxTokens; of one line that is wrong in several ways the first one is told.
func TestReadSeveralWrong(t *testing.T) {
	all := lines(api.MaxTokens)
	wantNoRead(t, all+"u 1\n", 20, api.ErrFull)
	wantNoRead(t, all+"u 2147483648\nv 1\n", 20, api.ErrFull)
	wantNoRead(t, lines(90), 20, api.ErrFull)
	wantNoRead(t, all+strings.Repeat("u 1\n", 100000), 20, api.ErrFull)
	for s, want := range map[string]error{
		"t19 1\n": api.ErrOrder, "a 1\n": api.ErrOrder, // ahead of ErrFull
		"u 0\n": api.ErrBound, "a 0\n": api.ErrBound, // ahead of ErrOrder, too
		"U 0\n": api.ErrName, "A 1\n": api.ErrName, " 0\n": api.ErrName,
		"u 01\n": api.ErrText, "A 00\n": api.ErrText, "u 1": api.ErrText, "A 1": api.ErrText, "a 0": api.ErrText, "\n": api.ErrText,
	} {
		wantNoRead(t, all+s, 20, want)
	}
	wantNoRead(t, "b 1\nc 1\nA 1\n", 2, api.ErrName)
	wantNoRead(t, "b 1\na 0\n", 1, api.ErrBound)
	wantNoRead(t, "b 1\nA 0\n", 1, api.ErrName)
	wantNoRead(t, "b 1\nA x\n", 1, api.ErrText)
	wantNoRead(t, "b 1\na 1", 1, api.ErrText)
	wantNoRead(t, "b 0\n\n", 0, api.ErrBound)
}

// P111: a text without its last byte is none, and one without its first lines is.
func TestReadCut(t *testing.T) {
	s := lines(api.MaxTokens)
	for n := range len(s) {
		ended := n == 0 || s[n-1] == '\n'
		if ended {
			wantRead(t, s[:n])
			wantRead(t, s[n:])
		} else {
			wantNoRead(t, s[:n], strings.Count(s[:n], "\n"), api.ErrText)
		}
	}
}
