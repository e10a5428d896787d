package gate_test

import (
	"fmt"
	"slices"
	"strconv"
	"strings"
	"testing"

	"packhorse/api"
	"packhorse/gate"
)

// chance is a row of numbers from a seed: the same each time.
type chance uint64

func (c *chance) below(n int) int {
	*c = *c*6364136223846793005 + 1442695040888963407
	return int(uint64(*c) >> 33 % uint64(n))
}

// P112: whatever was admitted is stale once there is a newer epoch, also behind a text, and never admitted again.
func TestAlways(t *testing.T) {
	for seed := range 40 {
		c := chance(seed)
		g := gate.New()
		newest := map[string]int{}
		for range 600 {
			token := fmt.Sprintf("t%02d", c.below(25))
			before := g.Last(token)
			switch c.below(4) {
			case 0, 1:
				g.Open(token)
			case 2:
				g.Set(token, 1+c.below(2*before+3))
			case 3:
				g = wantRead(t, g.Text())
			}
			if g.Last(token) < before {
				t.Fatalf("%s: %d, then %d", token, before, g.Last(token))
			}
			newest[token] = g.Last(token)
			wantNewest(t, g, newest)
		}
	}
}

// wantNewest: of each token the newest epoch is admitted, and none that was ahead of it.
func wantNewest(t *testing.T, g *gate.Gate, newest map[string]int) {
	t.Helper()
	for token, last := range newest {
		if last == 0 {
			wantAdmit(t, g, token, 0, api.ErrNone)
			continue
		}
		wantAdmit(t, g, token, last, nil)
		for n := last - 1; n > 0; n /= 2 {
			wantAdmit(t, g, token, n, api.ErrStale)
		}
		wantAdmit(t, g, token, last+1, api.ErrStale)
	}
}

// entry of a model: a token with its last epoch.
type entry struct {
	token string
	epoch int
}

// model is what P110 says of a gate, word by word: a list, in any order.
type model struct{ l []entry }

func (m *model) at(token string) int {
	return slices.IndexFunc(m.l, func(e entry) bool { return e.token == token })
}

func (m *model) last(token string) int {
	if k := m.at(token); k >= 0 {
		return m.l[k].epoch
	}
	return 0
}

func isToken(s string) bool {
	return s != "" && len(s) <= 12 && strings.Trim(s, "abcdefghijklmnopqrstuvwxyz0123456789.-") == ""
}

func (m *model) set(token string, epoch int) error {
	k := m.at(token)
	if !isToken(token) {
		return api.ErrName
	}
	if k < 0 && len(m.l) == 20 {
		return api.ErrFull
	}
	if epoch < 1 || epoch > 2147483648 {
		return api.ErrBound
	}
	if k < 0 {
		m.l = append(m.l, entry{token, epoch})
	} else if epoch > m.l[k].epoch {
		m.l[k].epoch = epoch
	}
	return nil
}

func (m *model) open(token string) (int, error) {
	n := m.last(token) + 1
	if err := m.set(token, n); err != nil {
		return 0, err
	}
	return n, nil
}

func (m *model) admit(token string, epoch int) error {
	if m.at(token) < 0 {
		return api.ErrNone
	}
	if m.last(token) != epoch {
		return api.ErrStale
	}
	return nil
}

func (m *model) text() string {
	l := slices.Clone(m.l)
	slices.SortFunc(l, func(a, b entry) int { return strings.Compare(a.token, b.token) })
	s := ""
	for _, e := range l {
		s += fmt.Sprintf("%s %d\n", e.token, e.epoch)
	}
	return s
}

// step of a gate and its model, by a letter and a token: both answer the same.
func step(t *testing.T, g *gate.Gate, m *model, how byte, token string) {
	t.Helper()
	epoch := int(how) - 4
	if how >= 128 {
		epoch = api.MaxEpoch - 4 + int(how-128)/16
	}
	if how%4 == 0 {
		n, err := g.Open(token)
		if want, wantErr := m.open(token); n != want || err != wantErr {
			t.Fatalf("open %q: %d %v, want %d %v", token, n, err, want, wantErr)
		}
	} else if how%4 == 1 {
		if err, want := g.Set(token, epoch), m.set(token, epoch); err != want {
			t.Fatalf("set %q %d: %v, want %v", token, epoch, err, want)
		}
	}
	for _, n := range []int{epoch, m.last(token), m.last(token) - 1} {
		wantAdmit(t, g, token, n, m.admit(token, n))
	}
	if g.Last(token) != m.last(token) {
		t.Fatalf("last of %q: %d, want %d", token, g.Last(token), m.last(token))
	}
	wantText(t, g, m.text())
}

// FuzzGate holds P110 and P112 against any calls, and P111 against what they lead to.
func FuzzGate(f *testing.F) {
	f.Add("\x00a\x01b\x08a\x10A\x00\x00", 1)
	f.Add("\x05a\x09a\x06a\x85a\xf1a\x00a\x84a\xc1b\xd1b\xe1b", 1)
	f.Add("\x00abc\x00abd\x00\xffbc\x11abc", 3)
	many := ""
	for k := range 25 {
		many += fmt.Sprintf("\x00t%02d", k)
	}
	f.Add(many+many, 3)
	f.Fuzz(func(t *testing.T, s string, long int) {
		long = max(0, min(long, 14))
		g, m := gate.New(), &model{}
		for calls := 0; len(s) > long && calls < 200; calls++ {
			step(t, g, m, s[0], s[1:1+long])
			s = s[1+long:]
		}
		wantRead(t, g.Text())
	})
}

// readModel is what P111 says of a text: the lines, or the first wrong one and what is wrong with it.
func readModel(s string) (*model, int, error) {
	m := &model{}
	l := strings.SplitAfter(s, "\n")
	for k, line := range l {
		if k == len(l)-1 && line == "" {
			break
		}
		e, err := entryModel(line)
		if err == nil && k > 0 && e.token <= m.l[k-1].token {
			err = api.ErrOrder
		}
		if err == nil && k >= 20 {
			err = api.ErrFull
		}
		if err != nil {
			return nil, k, err
		}
		m.l = append(m.l, e)
	}
	return m, 0, nil
}

func entryModel(line string) (entry, error) {
	words := strings.Split(strings.TrimSuffix(line, "\n"), " ")
	if !strings.HasSuffix(line, "\n") || len(words) != 2 {
		return entry{}, api.ErrText
	}
	digits := words[1]
	if digits == "" || len(digits) > 10 || strings.Trim(digits, "0123456789") != "" || len(digits) > 1 && digits[0] == '0' {
		return entry{}, api.ErrText
	}
	if !isToken(words[0]) {
		return entry{}, api.ErrName
	}
	n, _ := strconv.ParseUint(digits, 10, 64)
	if n < 1 || n > 2147483648 {
		return entry{}, api.ErrBound
	}
	return entry{words[0], int(n)}, nil
}

// FuzzRead holds P111 against any text.
func FuzzRead(f *testing.F) {
	for _, s := range []string{"", "a 1\nb 2\nc 2147483648\n", "a 1", " 1\n", "A 1\nb 2\n", "b 1\na 1\n", "a 0\n", "a -1\n", "a 2147483649\n", "a 01\n", "a 12345678901\n", "\n", "a 1\n\n", "a 1\r\n", "a  1\n", "a 1 2\n", lines(20), lines(21), lines(20) + "a 0", "\xff 1\n"} {
		f.Add(s)
	}
	f.Fuzz(func(t *testing.T, s string) {
		m, at, want := readModel(s)
		if want != nil {
			wantNoRead(t, s, at, want)
			return
		}
		g := wantRead(t, s)
		for _, e := range m.l {
			wantLast(t, g, e.token, e.epoch)
		}
	})
}
