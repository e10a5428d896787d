package xfer_test

import (
	"slices"
	"strconv"
	"testing"

	"packhorse/api"
	"packhorse/xfer"
)

// chance is a row of numbers from a seed: the same each time.
type chance uint64

func (c *chance) below(n int) int {
	*c = *c*6364136223846793005 + 1442695040888963407
	return int(uint64(*c) >> 33 % uint64(n))
}

// number for Do: of all kinds, and seldom a 7.
func (c *chance) number() int {
	v := c.below(100000)
	if v%8 == anew && c.below(10) > 0 {
		v -= 7
	}
	return v
}

// data of a file: any bytes, or few ones that are alike.
func (c *chance) data() string {
	b := make([]byte, c.below(1+c.below(api.MaxFile+1)))
	letters := 1 + c.below(256)
	for i := range b {
		b[i] = byte(c.below(letters))
	}
	return string(b)
}

// like a file, with some of its bytes gone, moved or new.
func (c *chance) like(s string) string {
	for range c.below(4) {
		i := c.below(len(s) + 1)
		j := i + c.below(len(s)-i+1)
		switch c.below(3) {
		case 0:
			s = s[:i] + s[j:]
		case 1:
			s = s[j:] + s[i:j] + s[:i]
		case 2:
			s = s[:i] + "new" + s[i:]
		}
	}
	return s[:min(len(s), api.MaxFile)]
}

// sides that have much in common.
func (c *chance) sides() sides {
	var s sides
	for k := range 30 {
		name, data := "f"+strconv.Itoa(10+k), c.data()
		if c.below(2) == 0 && len(s.from) < api.MaxFiles {
			s.from = append(s.from, file(name, data))
		}
		if c.below(2) == 0 && len(s.to) < api.MaxFiles {
			s.to = append(s.to, file(name, c.like(data)))
		}
	}
	return s
}

// wantDo: behind any number what P140 says of how many are under way, and P142.
func wantDo(t *testing.T, x *xfer.Xfer, s sides, v int) {
	t.Helper()
	under, done, was := x.Under(), x.Done(), x.To()
	x.Do(v)
	least, most := under, under
	switch v % 8 {
	case come, come1, come2:
		least, most = under-1, under+100
	case lose:
		least, most = under-1, under-1
	case double:
		if under < 500 {
			least, most = under+1, under+1
		}
	case tick, anew:
		most = under + 100
	}
	if done || v < 0 || under == 0 && v%8 <= turn {
		least, most = under, under
	}
	if x.Under() < least || x.Under() > most {
		t.Fatalf("%d: %d under way, then %d", v, under, x.Under())
	}
	if v%8 >= lose || v < 0 || done {
		if x.Done() != done || !slices.Equal(x.To(), was) {
			t.Fatalf("%d: nothing came, and it changed", v)
		}
	}
	wantNear(t, x, s)
}

// P142: whatever numbers are done, and however often.
func TestAlways(t *testing.T) {
	for seed := range 60 {
		c := chance(seed)
		s := c.sides()
		x := newXfer(t, s)
		for range c.below(1500) {
			wantDo(t, x, s, c.number())
		}
		wantFinish(t, x, s)
	}
}

// P142: on a net that mostly loses, doubles, turns, or forgets.
func TestBadNets(t *testing.T) {
	nets := [][]int{{lose, tick, come}, {double, come, come1, double}, {turn, come, tick}, {anew, come, come1, tick}, {tick, tick, double, lose, come2}, {turn, double, lose, anew, tick, come}}
	for i, kinds := range nets {
		for seed := range 8 {
			c := chance(100*i + seed)
			s := c.sides()
			x := newXfer(t, s)
			for range 800 {
				wantDo(t, x, s, kinds[c.below(len(kinds))]+8*c.below(1000))
			}
			wantFinish(t, x, s)
		}
	}
}

// filesOf bytes: up to four files with names that rise.
func filesOf(s string) []api.File {
	var l []api.File
	for _, name := range []string{"a", "b", "c", "d"} {
		if s == "" {
			break
		}
		n := min(int(s[0])*int(s[0])/9, len(s)-1)
		if s[0] != 1 {
			l = append(l, file(name, s[1:1+n]))
		}
		s = s[1+n:]
	}
	for k := range l {
		l[k].Data = l[k].Data[:min(len(l[k].Data), api.MaxFile)]
	}
	return l
}

// FuzzXfer holds P140 to P142 against any files and numbers.
func FuzzXfer(f *testing.F) {
	f.Add("", "", "")
	f.Add("\x05xy", "", "\x06\x03\x05\x00\x00\x00")
	f.Add("\x20"+mixed(200), "\x20"+mixed(190), "\x00\x08\x10\x07\x04\x0c\x05\x00\x01\x02")
	one, other := sumsAlike()
	f.Add("\x0f"+one+"abcde", "\x0f"+other+"abcd", "\x00\x00\x00\x00\x00\x00")
	f.Fuzz(func(t *testing.T, from, to, numbers string) {
		s := sides{filesOf(from), filesOf(to)}
		x := newXfer(t, s)
		for k := range min(len(numbers), 500) {
			wantDo(t, x, s, int(numbers[k]))
		}
		wantFinish(t, x, s)
	})
}
