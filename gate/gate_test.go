package gate_test

import (
	"fmt"
	"math"
	"strings"
	"sync"
	"testing"

	"packhorse/api"
	"packhorse/gate"
)

// The face, as it is given.
var (
	_ func() *gate.Gate                     = gate.New
	_ func(*gate.Gate, string) (int, error) = (*gate.Gate).Open
	_ func(*gate.Gate, string, int) error   = (*gate.Gate).Admit
	_ func(*gate.Gate, string) int          = (*gate.Gate).Last
	_ func(*gate.Gate, string, int) error   = (*gate.Gate).Set
	_ func(*gate.Gate) string               = (*gate.Gate).Text
	_ func(string) (*gate.Gate, error)      = gate.Read
)

// wrongNames are none of files.Name's.
func wrongNames() []string {
	return []string{"", " ", "A", "aB", "a b", "a_b", "a/b", "a\n", "\na", "a\x00", "ä", "\xff", "abcdefghijklm", strings.Repeat("a", 100000)}
}

// goodNames at the edges of files.Name.
func goodNames() []string {
	return []string{"a", "z", "0", "9", ".", "-", "..", "-1", "00", "abcdefghijkl", "------------", "a.b-c.0"}
}

func wantOpen(t *testing.T, g *gate.Gate, token string, want int) {
	t.Helper()
	if n, err := g.Open(token); n != want || err != nil {
		t.Errorf("open %q: %d %v, want %d", token, n, err, want)
	}
	wantLast(t, g, token, want)
}

func wantNoOpen(t *testing.T, g *gate.Gate, token string, want error) {
	t.Helper()
	was := g.Text()
	if n, err := g.Open(token); n != 0 || err != want {
		t.Errorf("open %.20q: %d %v, want %v", token, n, err, want)
	}
	wantText(t, g, was)
}

func wantSet(t *testing.T, g *gate.Gate, token string, epoch, want int) {
	t.Helper()
	if err := g.Set(token, epoch); err != nil {
		t.Errorf("set %q %d: %v", token, epoch, err)
	}
	wantLast(t, g, token, want)
}

func wantNoSet(t *testing.T, g *gate.Gate, token string, epoch int, want error) {
	t.Helper()
	was := g.Text()
	if err := g.Set(token, epoch); err != want {
		t.Errorf("set %.20q %d: %v, want %v", token, epoch, err, want)
	}
	wantText(t, g, was)
}

func wantAdmit(t *testing.T, g *gate.Gate, token string, epoch int, want error) {
	t.Helper()
	if err := g.Admit(token, epoch); err != want {
		t.Errorf("admit %.20q %d: %v, want %v", token, epoch, err, want)
	}
}

// wantLast: the last epoch, and no other one, is admitted.
func wantLast(t *testing.T, g *gate.Gate, token string, want int) {
	t.Helper()
	if n := g.Last(token); n != want {
		t.Errorf("last of %q: %d, want %d", token, n, want)
	}
	wantAdmit(t, g, token, want, nil)
	for _, n := range []int{want - 1, want + 1, 0, -want, want + api.MaxEpoch, math.MinInt, math.MaxInt} {
		wantAdmit(t, g, token, n, api.ErrStale)
	}
}

// wantNone: there is no such token.
func wantNone(t *testing.T, g *gate.Gate, token string) {
	t.Helper()
	was := g.Text()
	if n := g.Last(token); n != 0 {
		t.Errorf("last of %.20q: %d", token, n)
	}
	for _, n := range []int{0, 1, 2, -1, api.MaxEpoch, math.MinInt, math.MaxInt} {
		wantAdmit(t, g, token, n, api.ErrNone)
	}
	wantText(t, g, was) // to ask for it does not make it one
}

// full is a gate of MaxTokens tokens: t00 to t19.
func full(t *testing.T) *gate.Gate {
	t.Helper()
	g := gate.New()
	for k := range api.MaxTokens {
		wantOpen(t, g, fmt.Sprintf("t%02d", k), 1)
	}
	return g
}

// P110: at first there is none.
func TestNew(t *testing.T) {
	g := gate.New()
	wantText(t, g, "")
	for _, token := range append(wrongNames(), goodNames()...) {
		wantNone(t, g, token)
	}
}

// P110: one more than the last one, at first 1; of each token by itself.
func TestOpen(t *testing.T) {
	g := gate.New()
	for _, token := range goodNames() {
		wantNone(t, g, token)
		for n := range 5 {
			wantOpen(t, g, token, n+1)
		}
	}
	wantOpen(t, g, "a", 6)
	wantOpen(t, g, "z", 6)
	wantOpen(t, g, "a", 7)
	wantLast(t, g, "0", 5)
}

// P110: a wrong name is none, and changes nothing.
func TestWrongNames(t *testing.T) {
	for _, g := range []*gate.Gate{gate.New(), full(t)} {
		for _, token := range wrongNames() {
			wantNoOpen(t, g, token, api.ErrName)
			for _, epoch := range []int{1, 7, api.MaxEpoch, 0, -1, api.MaxEpoch + 1} {
				wantNoSet(t, g, token, epoch, api.ErrName) // ahead of ErrFull and ErrBound
			}
			wantNone(t, g, token)
		}
	}
}

// P110: no more than MaxTokens, but those that are there go on.
func TestFull(t *testing.T) {
	g := full(t)
	for _, token := range []string{"a", "t", "t20", "t000", "z"} {
		wantNoOpen(t, g, token, api.ErrFull)
		for _, epoch := range []int{1, 7, api.MaxEpoch, 0, -1, api.MaxEpoch + 1} {
			wantNoSet(t, g, token, epoch, api.ErrFull) // ahead of ErrBound
		}
		wantNone(t, g, token)
	}
	for k := range api.MaxTokens {
		token := fmt.Sprintf("t%02d", k)
		wantOpen(t, g, token, 2)
		wantSet(t, g, token, 5+k, 5+k)
		wantNoSet(t, g, token, 0, api.ErrBound)
	}
	wantSet(t, g, "t19", api.MaxEpoch, api.MaxEpoch)
	wantNoOpen(t, g, "t19", api.ErrBound)
}

// P110: the 20th is taken by Open and by Set; what was refused takes no room.
func TestAlmostFull(t *testing.T) {
	for _, set := range []bool{false, true} {
		g := gate.New()
		for k := range api.MaxTokens - 1 {
			wantSet(t, g, fmt.Sprintf("t%02d", k), 3, 3)
			wantNoSet(t, g, fmt.Sprintf("u%02d", k), 0, api.ErrBound)
			wantNoOpen(t, g, fmt.Sprintf("V%02d", k), api.ErrName)
			wantNone(t, g, fmt.Sprintf("w%02d", k))
		}
		if set {
			wantSet(t, g, "z", 9, 9)
		} else {
			wantOpen(t, g, "z", 1)
		}
		wantNoOpen(t, g, "y", api.ErrFull)
		wantNoSet(t, g, "y", 1, api.ErrFull)
	}
}

// P110: no epoch above MaxEpoch.
func TestOpenBound(t *testing.T) {
	g := gate.New()
	wantSet(t, g, "a", api.MaxEpoch-2, 2147483646)
	wantOpen(t, g, "a", 2147483647)
	wantOpen(t, g, "a", 2147483648)
	for range 3 {
		wantNoOpen(t, g, "a", api.ErrBound)
	}
	wantLast(t, g, "a", 2147483648)
	wantOpen(t, g, "b", 1)
}

// P110: the last one is at least that: it grows, and is never less.
func TestSet(t *testing.T) {
	g := gate.New()
	wantSet(t, g, "a", 5, 5)
	wantSet(t, g, "a", 5, 5)
	wantSet(t, g, "a", 4, 5)
	wantSet(t, g, "a", 1, 5)
	wantSet(t, g, "a", 6, 6)
	wantOpen(t, g, "a", 7)
	wantSet(t, g, "a", 7, 7)
	wantSet(t, g, "a", 1000, 1000)
	wantOpen(t, g, "a", 1001)
	wantSet(t, g, "b", 1, 1)
	wantOpen(t, g, "b", 2)
	wantSet(t, g, "c", api.MaxEpoch, api.MaxEpoch)
	wantSet(t, g, "c", api.MaxEpoch-1, api.MaxEpoch)
	wantLast(t, g, "a", 1001)
}

// P110: an epoch that is none is refused, of a token that is there and of a new one.
func TestSetBound(t *testing.T) {
	g := gate.New()
	wantSet(t, g, "a", 5, 5)
	for _, epoch := range []int{0, -1, -5, math.MinInt, api.MaxEpoch + 1, api.MaxEpoch + 5, 1 << 32, 1<<32 + 6, math.MaxInt} {
		wantNoSet(t, g, "a", epoch, api.ErrBound)
		wantNoSet(t, g, "b", epoch, api.ErrBound)
	}
	wantLast(t, g, "a", 5)
	wantNone(t, g, "b")
	wantOpen(t, g, "b", 1)
}

// P110: to admit, or to ask, changes nothing.
func TestAdmitChangesNothing(t *testing.T) {
	g := gate.New()
	wantSet(t, g, "a", 3, 3)
	for range 3 {
		wantLast(t, g, "a", 3)
		wantNone(t, g, "b")
		wantText(t, g, "a 3\n")
	}
	wantOpen(t, g, "a", 4)
}

// P2: each gate is its own, also side by side.
func TestSideBySide(t *testing.T) {
	var all sync.WaitGroup
	for w := range 8 {
		all.Go(func() {
			g := gate.New()
			for k := range 400 {
				token := fmt.Sprintf("t%d", (k*(w+1))%10)
				n, err := g.Open(token)
				if err != nil || n != g.Last(token) || g.Admit(token, n) != nil {
					t.Error(w, k, n, err)
				}
				h, err := gate.Read(g.Text())
				if err != nil || h.Text() != g.Text() {
					t.Error(w, k, err)
				}
			}
		})
	}
	all.Wait()
}

// P4: what was read is its own: gates of one text do not know of each other.
func TestGatesApart(t *testing.T) {
	const s = "a 1\nb 2\n"
	g, h := wantRead(t, s), wantRead(t, s)
	wantOpen(t, g, "a", 2)
	wantOpen(t, g, "c", 1)
	wantText(t, h, s)
	wantNone(t, h, "c")
	wantText(t, gate.New(), "")
}
