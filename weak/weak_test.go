package weak_test

import (
	"math"
	"slices"
	"strings"
	"sync"
	"testing"

	"packhorse/api"
	"packhorse/weak"
)

// The face, as it is given.
var (
	_ func(string) int               = weak.Sum
	_ func(int, int, byte, byte) int = weak.Roll
	_ func(int, int, int) int        = weak.Join
	_ func(string, int) []int        = weak.All
)

const top = api.Mod*api.Mod - 1 // the greatest sum

// spelt is P20's own words: whole numbers, brought below Mod at the end only.
func spelt(s string) int {
	a, b := 0, 0
	for i := range len(s) {
		a += int(s[i])
		b += int(s[i]) * (len(s) - i)
	}
	return a%api.Mod + api.Mod*(b%api.Mod)
}

// texts are of all lengths around the bounds, of least and greatest bytes and of mixed ones.
func texts() []string {
	mixed := make([]byte, api.MaxFile+100)
	for i := range mixed {
		mixed[i] = byte(i * i * 7 >> 3)
	}
	l := []string{"", "a", "abc", "cba", "\x00", "\x00\x00", "\x00a", "a\x00", "\xff", "\x80\x7f", "grüße"}
	for _, n := range []int{22, 23, 256, 257, 258, api.MaxFile - 1, api.MaxFile, api.MaxFile + 1, api.MaxFile + 100} {
		l = append(l, strings.Repeat("\xff", n), strings.Repeat("\x00", n), string(mixed[:n]))
	}
	return l
}

// P20: known sums, worked out by hand.
func TestKnownSums(t *testing.T) {
	for _, c := range []struct {
		s    string
		a, b int
	}{
		{"", 0, 0},
		{"\x00", 0, 0},
		{"a", 97, 97},
		{"abc", 294, 586},
		{"cba", 294, 590},
		{"\x00a", 97, 97},
		{"a\x00", 97, 194},
		{"\xff\xff", 510, 765},
		{strings.Repeat("\xff", 257), 65535, 255 * 257 * 258 / 2 % 65536},
		{strings.Repeat("\xff", 258), 254, 255 * 258 * 259 / 2 % 65536},
	} {
		if got := weak.Sum(c.s); got != c.a+65536*c.b {
			t.Errorf("Sum(%.9q) = %d and %d, want %d and %d", c.s, got%65536, got/65536, c.a, c.b)
		}
	}
}

// P20: every text's sum is as it is spelt, also of those longer than a file.
func TestSum(t *testing.T) {
	for _, s := range append(texts(), strings.Repeat("\xfe\xff", 1<<19)) {
		if got, want := weak.Sum(s), spelt(s); got != want {
			t.Errorf("Sum of %d bytes %.9q = %d, want %d", len(s), s, got, want)
		}
	}
}

// P20, P22: what is rolled is what is summed anew, for all pairs of bytes.
func TestRollOfAllBytes(t *testing.T) {
	for out := range 256 {
		for in := range 256 {
			s := string([]byte{byte(out), 'x', 0xff, byte(in)})
			if got, want := weak.Roll(spelt(s[:3]), 3, s[0], s[3]), spelt(s[1:]); got != want {
				t.Fatalf("Roll %d to %d = %d, want %d", out, in, got, want)
			}
		}
	}
}

// P20, P22: of all lengths, the edges 1 and MaxFile too.
func TestRoll(t *testing.T) {
	for _, s := range texts() {
		n := len(s) - 1
		if n < 1 || n > api.MaxFile {
			continue
		}
		if got, want := weak.Roll(spelt(s[:n]), n, s[0], s[n]), spelt(s[1:]); got != want {
			t.Errorf("%d bytes %.9q: rolled %d, anew %d", n, s, got, want)
		}
	}
	if got := weak.Roll(spelt("a"), 1, 'a', 'b'); got != spelt("b") {
		t.Errorf("one byte: %d", got)
	}
}

// P20: a number that is no sum, or no length: -1; the last that are, are taken.
func TestRollWrong(t *testing.T) {
	for _, c := range []struct {
		sum, n, want int
	}{
		{-1, 3, -1},
		{top + 1, 3, -1},
		{math.MinInt, 3, -1},
		{math.MaxInt, 3, -1},
		{0, 0, -1},
		{0, -1, -1},
		{0, api.MaxFile + 1, -1},
		{0, math.MinInt, -1},
		{0, math.MaxInt, -1},
		{-1, -1, -1},
		{0, 1, 0},
		{0, api.MaxFile, 0},
		{top, 1, 65535 + 65536*65534},
	} {
		if got := weak.Roll(c.sum, c.n, 0, 0); got != c.want {
			t.Errorf("Roll(%d, %d) = %d, want %d", c.sum, c.n, got, c.want)
		}
	}
}

// P20: bytes that no such text has still make a sum, since only sum and n are held to bounds.
func TestRollStaysASum(t *testing.T) {
	for _, sum := range []int{0, 1, api.Mod - 1, api.Mod, top} {
		for _, n := range []int{1, 2, 300, api.MaxFile} {
			for _, b := range []byte{0, 1, 255} {
				if got := weak.Roll(sum, n, b, 255-b); got < 0 || got > top {
					t.Errorf("Roll(%d, %d, %d, %d) = %d", sum, n, b, 255-b, got)
				}
			}
		}
	}
	// 0 - 255 and 0 - 4000*255 - 255, each modulo Mod.
	if got := weak.Roll(0, api.MaxFile, 255, 0); got != 65281+65536*28321 {
		t.Errorf("below 0: %d and %d", got%api.Mod, got/api.Mod)
	}
}

// P20: joined is what is summed at once, wherever the text is cut.
func TestJoin(t *testing.T) {
	for _, s := range texts() {
		for _, k := range []int{0, 1, 2, 255, len(s) / 2, len(s) - 1, len(s)} {
			if k < 0 || k > len(s) || len(s)-k > api.MaxFile {
				continue
			}
			if got, want := weak.Join(spelt(s[:k]), spelt(s[k:]), len(s)-k), spelt(s); got != want {
				t.Errorf("%d and %d bytes %.9q: joined %d, at once %d", k, len(s)-k, s, got, want)
			}
		}
	}
	long := strings.Repeat("\xff", 3*api.MaxFile)
	if got := weak.Join(spelt(long), spelt("abc"), 3); got != spelt(long+"abc") {
		t.Error("the first text may be longer than a file")
	}
}

// P20: numbers that are no sums, or no length: -1; 0 is a length here.
func TestJoinWrong(t *testing.T) {
	for _, c := range []struct {
		a, b, n, want int
	}{
		{-1, 0, 0, -1},
		{0, -1, 0, -1},
		{top + 1, 0, 0, -1},
		{0, top + 1, 0, -1},
		{math.MaxInt, math.MinInt, 0, -1},
		{0, 0, -1, -1},
		{0, 0, api.MaxFile + 1, -1},
		{0, 0, math.MinInt, -1},
		{0, 0, math.MaxInt, -1},
		{-1, -1, -1, -1},
		{7, 0, 0, 7},
		{top, 0, 0, top},
		{0, top, 1, top},
		{0, 0, api.MaxFile, 0},
		{top, top, 1, 65534 + 65536*65533},
	} {
		if got := weak.Join(c.a, c.b, c.n); got != c.want {
			t.Errorf("Join(%d, %d, %d) = %d, want %d", c.a, c.b, c.n, got, c.want)
		}
	}
}

// P21, P22: the sum from each place on, as it is summed anew.
func TestAll(t *testing.T) {
	for _, s := range texts() {
		for _, n := range []int{1, 2, 64, 257, api.MaxFile, len(s) - 1, len(s)} {
			if n < 1 || n > len(s) || n > api.MaxFile {
				continue
			}
			l := weak.All(s, n)
			if len(l) != len(s)-n+1 {
				t.Fatalf("All of %d bytes by %d: %d sums", len(s), n, len(l))
			}
			for i, got := range l {
				if want := weak.Sum(s[i : i+n]); got != want {
					t.Fatalf("All of %d bytes %.9q by %d, at %d: %d, want %d", len(s), s, n, i, got, want)
				}
				if i+n < len(s) && weak.Roll(got, n, s[i], s[i+n]) != l[i+1] {
					t.Fatalf("All of %d bytes %.9q by %d, at %d: not as rolled", len(s), s, n, i)
				}
			}
		}
	}
}

// P21: no such n, or not as many bytes: none.
func TestAllNone(t *testing.T) {
	long := strings.Repeat("a", api.MaxFile+1)
	for _, c := range []struct {
		s    string
		n    int
		want int
	}{
		{"", 0, 0},
		{"", 1, 0},
		{"ab", 0, 0},
		{"ab", -1, 0},
		{"ab", 3, 0},
		{"ab", math.MinInt, 0},
		{"ab", math.MaxInt, 0},
		{long, api.MaxFile + 1, 0},
		{"ab", 1, 2},
		{"ab", 2, 1},
		{long, api.MaxFile, 2},
	} {
		if got := len(weak.All(c.s, c.n)); got != c.want {
			t.Errorf("All of %d bytes by %d: %d sums, want %d", len(c.s), c.n, got, c.want)
		}
	}
}

// P2, P4: the same each time, also from many sides at once, and in memory of its own.
func TestAllIsNew(t *testing.T) {
	s := strings.Repeat("packhorse\xff", 40)
	want := weak.All(s, 7)
	kept := slices.Clone(want)
	var wait sync.WaitGroup
	for range 8 {
		wait.Go(func() {
			l := weak.All(s, 7)
			if !slices.Equal(l, kept) {
				t.Error("not the same")
			}
			clear(l)
		})
	}
	wait.Wait()
	if !slices.Equal(want, kept) {
		t.Error("what is written into one answer shows in another one")
	}
}

// P22, on bytes of the fuzzer's making.
func FuzzRoll(f *testing.F) {
	f.Add("abcdef", 3)
	f.Add("\xff\xff\x00", 1)
	f.Add("", 0)
	f.Fuzz(func(t *testing.T, s string, n int) {
		l := weak.All(s, n)
		if n < 1 || n > api.MaxFile || n > len(s) {
			if len(l) != 0 {
				t.Fatalf("All(%q, %d) has %d sums", s, n, len(l))
			}
			return
		}
		if len(l) != len(s)-n+1 {
			t.Fatalf("All(%q, %d) has %d sums", s, n, len(l))
		}
		for i, got := range l {
			if got != spelt(s[i:i+n]) {
				t.Fatalf("All(%q, %d) at %d: %d", s, n, i, got)
			}
		}
		if weak.Join(spelt(s[:len(s)-n]), spelt(s[len(s)-n:]), n) != spelt(s) {
			t.Fatalf("Join of %q cut %d from the end", s, n)
		}
	})
}
