package sum_test

import (
	"hash/crc32"
	"math"
	"strings"
	"sync"
	"testing"

	"packhorse/api"
	"packhorse/sum"
)

// The face, as it is given.
var (
	_ func(string) uint32              = sum.Sum
	_ func(uint32, string) uint32      = sum.More
	_ func(uint32, uint32, int) uint32 = sum.Join
)

// spelt is P30's own words: the bits of all bytes, each byte's lowest one
// first, begun and turned over with ones, divided the way it is done on paper.
func spelt(s string) uint32 {
	line := make([]bool, 0, 8*len(s)+32)
	for i := range len(s) {
		for j := range 8 {
			line = append(line, s[i]>>j&1 == 1)
		}
	}
	line = append(line, make([]bool, 32)...)
	for i := range 32 {
		line[i] = !line[i]
	}
	const divisor = 0x04C11DB7 // 0xEDB88320, turned around; x^32 stands ahead of it
	for i := range 8 * len(s) {
		for j := 0; line[i] && j < 32; j++ {
			line[i+1+j] = line[i+1+j] != (divisor>>(31-j)&1 == 1)
		}
	}
	var c uint32
	for j, bit := range line[8*len(s):] {
		if !bit {
			c |= 1 << j
		}
	}
	return c
}

// texts are of no bytes, few and many, of least and greatest ones and of mixed ones.
func texts() []string {
	mixed := make([]byte, api.MaxFile+100)
	for i := range mixed {
		mixed[i] = byte(i * i * 7 >> 3)
	}
	l := []string{"", "a", "abc", "cba", "123456789", "\x00", "\x00\x00", "\x00a", "a\x00", "\xff", "\x80\x7f", "\xff\xff\xff\xff", "grüße"}
	for _, n := range []int{3, 4, 5, 31, 32, 33, 256, 257, api.MaxFile, api.MaxFile + 100} {
		l = append(l, strings.Repeat("\xff", n), strings.Repeat("\x00", n), string(mixed[:n]))
	}
	return l
}

// P30: known sums.
func TestKnownSums(t *testing.T) {
	for s, want := range map[string]uint32{
		"":                     0,
		"\x00":                 0xD202EF8D,
		"\xff":                 0xFF000000,
		"a":                    0xE8B7BE43,
		"abc":                  0x352441C2,
		"123456789":            0xCBF43926,
		"\x00\x00\x00\x00":     0x2144DF1C,
		"\xff\xff\xff\xff":     0xFFFFFFFF,
		"\xff\xff\xff\xff\x00": 0xFFFFFFFF,
	} {
		if got := sum.Sum(s); got != want {
			t.Errorf("Sum(%q) = %08x, want %08x", s, got, want)
		}
	}
}

// P30: every text's sum is as it is spelt.
func TestSum(t *testing.T) {
	for _, s := range texts() {
		if got, want := sum.Sum(s), spelt(s); got != want || got != crc32.ChecksumIEEE([]byte(s)) {
			t.Errorf("Sum of %d bytes %.9q = %08x, want %08x", len(s), s, got, want)
		}
	}
	long := strings.Repeat("packhorse\xff\x00", 1<<16)
	if got, want := sum.Sum(long), crc32.ChecksumIEEE([]byte(long)); got != want {
		t.Errorf("Sum of %d bytes = %08x, want %08x", len(long), got, want)
	}
}

// P30: of all bytes, and all pairs of them.
func TestSumOfAllBytes(t *testing.T) {
	for i := range 256 {
		s := string([]byte{byte(i)})
		if got, want := sum.Sum(s), spelt(s); got != want {
			t.Errorf("Sum(%q) = %08x, want %08x", s, got, want)
		}
		for j := range 256 {
			r := string([]byte{byte(i), byte(j)})
			if got, want := sum.More(sum.Sum(s), r[1:]), spelt(r); got != want {
				t.Fatalf("More of %q = %08x, want %08x", r, got, want)
			}
		}
	}
}

// P30: a sum goes on wherever the text is cut, in two or in more.
func TestMore(t *testing.T) {
	for _, s := range texts() {
		want := spelt(s)
		for _, k := range cuts(s) {
			if got := sum.More(spelt(s[:k]), s[k:]); got != want {
				t.Errorf("%d and %d bytes %.9q: %08x, want %08x", k, len(s)-k, s, got, want)
			}
		}
		c := sum.Sum("")
		for i := range len(s) {
			c = sum.More(c, s[i:i+1])
		}
		if c != want {
			t.Errorf("%d bytes %.9q one by one: %08x, want %08x", len(s), s, c, want)
		}
	}
}

// P30: every number is the sum of some text, so all of them go on.
func TestMoreOfAnySum(t *testing.T) {
	for _, c := range numbers() {
		if got := sum.More(c, ""); got != c {
			t.Errorf("More(%08x) by nothing = %08x", c, got)
		}
		for _, s := range texts() {
			if got, want := sum.More(c, s), crc32.Update(c, crc32.IEEETable, []byte(s)); got != want {
				t.Errorf("More(%08x) by %d bytes %.9q = %08x, want %08x", c, len(s), s, got, want)
			}
		}
	}
}

// P31, P32: joined is summed at once, for all texts one behind the other.
func TestJoin(t *testing.T) {
	l := texts()
	for _, s := range l {
		for _, r := range l {
			want := crc32.ChecksumIEEE([]byte(s + r))
			if got := sum.Join(sum.Sum(s), sum.Sum(r), len(r)); got != want || got != sum.Sum(s+r) {
				t.Errorf("%d bytes %.9q and %d bytes %.9q: joined %08x, at once %08x", len(s), s, len(r), r, got, want)
			}
		}
	}
}

// P31, P32: of every length up to where all bits of a sum have gone through, and of long ones.
func TestJoinOfAllLengths(t *testing.T) {
	s := strings.Repeat("\x00\x01\xfe", 1<<18)
	for n := range 300 {
		if got, want := sum.Join(spelt("ab"), spelt(s[:n]), n), spelt("ab"+s[:n]); got != want {
			t.Errorf("%d bytes: joined %08x, at once %08x", n, got, want)
		}
	}
	for _, n := range []int{1<<16 - 1, 1 << 16, 1<<16 + 1, len(s)} {
		if got, want := sum.Join(sum.Sum("ab"), sum.Sum(s[:n]), n), sum.Sum("ab"+s[:n]); got != want {
			t.Errorf("%d bytes: joined %08x, at once %08x", n, got, want)
		}
	}
}

// P31: three texts are joined from either end alike.
func TestJoinOfThree(t *testing.T) {
	a, b, c := "pack", strings.Repeat("horse", 77), "\x00\xff"
	front := sum.Join(sum.Join(sum.Sum(a), sum.Sum(b), len(b)), sum.Sum(c), len(c))
	back := sum.Join(sum.Sum(a), sum.Join(sum.Sum(b), sum.Sum(c), len(c)), len(b)+len(c))
	if want := sum.Sum(a + b + c); front != want || back != want {
		t.Errorf("from the front %08x, from the back %08x, at once %08x", front, back, want)
	}
}

// P31: n below 0 is as 0, where nothing stands between the two sums.
func TestJoinOfNothing(t *testing.T) {
	for _, a := range numbers() {
		for _, b := range numbers() {
			for _, n := range []int{0, -1, -2, -8, -api.MaxNum, math.MinInt + 1, math.MinInt} {
				if got := sum.Join(a, b, n); got != a^b {
					t.Errorf("Join(%08x, %08x, %d) = %08x, want %08x", a, b, n, got, a^b)
				}
			}
		}
	}
}

// P31: far more bytes than any text has, held against powers of x that are multiplied.
func TestJoinOfVeryMany(t *testing.T) {
	for _, n := range []int{1, 2, 3, 255, 1 << 20, 1<<32 - 2, 1<<32 - 1, 1 << 32, 1<<39 + 12345, api.MaxNum - 1, api.MaxNum} {
		for _, a := range numbers() {
			want := times(a, power(n)) ^ 0x89abcdef
			if got := sum.Join(a, 0x89abcdef, n); got != want {
				t.Errorf("Join(%08x, 89abcdef, %d) = %08x, want %08x", a, n, got, want)
			}
		}
	}
	for _, a := range numbers() {
		if sum.Join(a, 0, 1<<32-1) != a {
			t.Errorf("%08x does not come back after all that a sum can be", a)
		}
	}
}

// P1: numbers beyond those that are spoken of end too.
func TestJoinEnds(t *testing.T) {
	for _, n := range []int{api.MaxNum + 1, math.MaxInt - 1, math.MaxInt} {
		for _, a := range numbers() {
			if sum.Join(a, 1, n)^1 != sum.Join(a, 0, n) {
				t.Errorf("Join(%08x, .., %d)", a, n)
			}
		}
	}
}

// P2: the same each time, also from many sides at once.
func TestSame(t *testing.T) {
	s := strings.Repeat("packhorse\xff", 40)
	want, joined := sum.Sum(s), sum.Join(sum.Sum(s), 77, 1<<35+3)
	var wait sync.WaitGroup
	for range 8 {
		wait.Go(func() {
			if sum.Sum(s) != want || sum.Join(want, 77, 1<<35+3) != joined {
				t.Error("not the same")
			}
		})
	}
	wait.Wait()
}

// P30 to P32, on bytes of the fuzzer's making.
func FuzzJoin(f *testing.F) {
	f.Add("abc", "def", 3)
	f.Add("\xff\xff\x00", "", -1)
	f.Add("", "\x00\x00", 1<<40)
	f.Fuzz(func(t *testing.T, s, r string, n int) {
		want := crc32.ChecksumIEEE([]byte(s + r))
		a, b := sum.Sum(s), sum.Sum(r)
		if sum.Sum(s+r) != want || sum.More(a, r) != want || sum.Join(a, b, len(r)) != want {
			t.Fatalf("%q and %q: want %08x", s, r, want)
		}
		if n <= 0 && sum.Join(a, b, n) != a^b {
			t.Fatalf("%08x and %08x by %d", a, b, n)
		}
		if n > 0 && sum.Join(a, b, n) != times(a, power(n))^b {
			t.Fatalf("%08x and %08x by %d", a, b, n)
		}
	})
}

func cuts(s string) []int {
	var l []int
	for _, k := range []int{0, 1, 2, 3, 4, 255, len(s) / 2, len(s) - 1, len(s)} {
		if k >= 0 && k <= len(s) {
			l = append(l, k)
		}
	}
	return l
}

func numbers() []uint32 {
	l := []uint32{0, 7, 9, 0x12345678, 0xEDB88320, math.MaxUint32 - 1, math.MaxUint32}
	for i := range 32 {
		l = append(l, 1<<i)
	}
	return l
}

// one is the power of x that is 1, as sums have their bits: turned around.
const one uint32 = 1 << 31

// times multiplies two rests by the polynomial.
func times(a, b uint32) uint32 {
	var out uint32
	for bit := one; bit != 0; bit >>= 1 {
		if a&bit != 0 {
			out ^= b
		}
		carry := b & 1
		b >>= 1
		if carry == 1 {
			b ^= 0xEDB88320
		}
	}
	return out
}

// power is x to the 8 times n.
func power(n int) uint32 {
	out, p := one, one>>8
	for ; n > 0; n /= 2 {
		if n%2 == 1 {
			out = times(out, p)
		}
		p = times(p, p)
	}
	return out
}
