package tape_test

import (
	"regexp"
	"slices"
	"strconv"
	"strings"
	"testing"

	"packhorse/api"
	"packhorse/tape"
)

// chance is a row of numbers from a seed: the same each time.
type chance uint64

func (c *chance) below(n int) int {
	*c = *c*6364136223846793005 + 1442695040888963407
	return int(uint64(*c) >> 33 % uint64(n))
}

// P122: power cut at each byte of some records, and at each one of those behind them.
func TestAlways(t *testing.T) {
	texts := []string{"", "y", "a\n.b", "1:y\n.", xs(10), "\n.", xs(120)}
	whole := recordsOf(texts)
	for first := range len(whole) + 3 {
		d := newDisk(t, "")
		done := appendUntil(t, d, texts, first, nil)
		for second := 0; second < len(whole); second += 1 + second/9 {
			done = appendUntil(t, d, texts, second, done)
		}
	}
}

// appendUntil power is cut, and recover: what was done, and what was told to be.
func appendUntil(t *testing.T, d *tape.Disk, texts []string, cut int, done []string) []string {
	t.Helper()
	was := len(d.Bytes())
	wantCut(t, d, cut, nil)
	for _, s := range texts {
		if tape.Append(d, s) == nil {
			done = append(done, s)
		}
	}
	if whole := len(recordsOf(texts)); len(d.Bytes()) != was+min(cut, whole) || d.Power() != (cut >= whole) {
		t.Fatalf("cut %d: %d bytes, power %v", cut, len(d.Bytes())-was, d.Power())
	}
	wantRecover(t, d, done, recordsOf(done))
	return done
}

// P122: wherever and however often power is cut, with texts that look like pieces of records.
func TestAlwaysByChance(t *testing.T) {
	for seed := range 60 {
		c := chance(seed)
		d := newDisk(t, "")
		var done []string
		for range 80 {
			s := ""
			for range c.below(30) {
				s += string("0123:\n.x"[c.below(8)])
			}
			d.Cut(c.below(60))
			for range c.below(3) {
				if tape.Append(d, s) == nil {
					done = append(done, s)
				}
			}
			if !d.Power() || c.below(2) == 0 {
				wantRecover(t, d, done, recordsOf(done))
			}
		}
	}
}

// model is what P120 says of a disk, word by word: cut is how many bytes may still be written, below 0 if no cut waits.
type model struct {
	b   string
	off bool
	cut int
}

func (m *model) doCut(n int) error {
	if n < 0 {
		return api.ErrBound
	}
	if m.off {
		return api.ErrOff
	}
	m.cut = n
	return nil
}

// doAppend byte by byte.
func (m *model) doAppend(s string) error {
	r := recordOf(s)
	if len(s) > 20000 {
		return api.ErrBound
	}
	if len(m.b)+len(r) > 1048576 {
		return api.ErrFull
	}
	for i := range len(r) {
		m.off = m.off || m.cut == 0
		if m.off {
			return api.ErrOff
		}
		m.b += r[i : i+1]
		m.cut--
	}
	return nil
}

func (m *model) on() { m.off, m.cut = false, -1 }

func (m *model) recover() []string {
	m.on()
	l, n := readModel(m.b)
	m.b = m.b[:n]
	return l
}

var head = regexp.MustCompile(`^(0|[1-9][0-9]{0,4}):`)

// readModel is what P121 says of bytes.
func readModel(b string) ([]string, int) {
	var l []string
	whole := len(b)
	for {
		h := head.FindString(b)
		n, err := strconv.Atoi(strings.TrimSuffix(h, ":"))
		end := len(h) + n
		if err != nil || n > 20000 || len(b) < end+2 || b[end:end+2] != "\n." {
			return l, whole - len(b)
		}
		l = append(l, b[len(h):end])
		b = b[end+2:]
	}
}

// step of a disk and its model, by a letter and a text: both answer the same.
func step(t *testing.T, d *tape.Disk, m *model, how byte, s string) {
	t.Helper()
	switch n := int(how) / 8; how % 8 {
	case 0, 1, 2, 3:
		if err, want := tape.Append(d, s), m.doAppend(s); err != want {
			t.Fatalf("append %q: %v, want %v", s, err, want)
		}
	case 4, 5:
		if err, want := d.Cut(n-1), m.doCut(n-1); err != want {
			t.Fatalf("cut %d: %v, want %v", n-1, err, want)
		}
	case 6:
		d.On()
		m.on()
	case 7:
		want := m.recover()
		if l, err := tape.Recover(d); err != nil || !slices.Equal(l, want) {
			t.Fatalf("recovered %q, %v, want %q", l, err, want)
		}
	}
	if d.Bytes() != m.b || d.Power() == m.off {
		t.Fatalf("%q, power %v, want %q, %v", d.Bytes(), d.Power(), m.b, !m.off)
	}
	wantModel(t, m.b)
}

func wantModel(t *testing.T, b string) {
	t.Helper()
	want, n := readModel(b)
	wantRead(t, b, want, n)
	if recordsOf(want) != b[:n] {
		t.Errorf("%q has not the records %q", b, want)
	}
}

// FuzzDisk holds P120 and P121 against any calls.
func FuzzDisk(f *testing.F) {
	f.Add("", "\x00a\x00b\x07c\x00d", 1)
	f.Add("1:y\n.z", "\x4ca\x00b\x00c\x0cd\x04e\x07f\x00g", 1)
	f.Add("", "\x3cabc\x44abc\x00abc\x00abc\x06abc\x00abc\x07abc", 3)
	f.Add("5:", "\x14\n.\x00\n.\x06\n.\x00\n.\x07\n.\x0c\n.\x00\n.", 2)
	f.Fuzz(func(t *testing.T, b, calls string, long int) {
		long = max(0, min(long, 30))
		d, err := tape.NewDisk(b)
		if err != nil {
			return
		}
		m := &model{b: b, cut: -1}
		for k := 0; len(calls) > long && k < 200; k++ {
			step(t, d, m, calls[0], calls[1:1+long])
			calls = calls[1+long:]
		}
	})
}

// FuzzRead holds P121 against any bytes.
func FuzzRead(f *testing.F) {
	for _, s := range append(wrongRecords(), goodTexts()...) {
		f.Add(s)
		f.Add(recordOf(s) + recordOf("y"))
	}
	f.Fuzz(func(t *testing.T, b string) {
		wantModel(t, b)
		wantModel(t, "1:y\n."+b)
		if len(b) <= api.MaxText {
			wantRead(t, recordOf(b), []string{b}, len(recordOf(b)))
		}
	})
}
