package window_test

import (
	"fmt"
	"math"
	"slices"
	"strings"
	"sync"
	"testing"

	"packhorse/api"
	"packhorse/window"
)

// The face, as it is given.
var (
	_ func(int, int) bool                          = window.Ahead
	_ func(int) *window.Sender                     = window.NewSender
	_ func(*window.Sender, string) (int, error)    = (*window.Sender).Push
	_ func(*window.Sender) []int                   = (*window.Sender).Kept
	_ func(*window.Sender, int) (string, bool)     = (*window.Sender).Data
	_ func(*window.Sender, window.Ack) int         = (*window.Sender).Take
	_ func(int) *window.Receiver                   = window.NewReceiver
	_ func(*window.Receiver, int, string) []string = (*window.Receiver).Take
	_ func(*window.Receiver) window.Ack            = (*window.Receiver).Ack
	_                                              = struct {
		Next int
		More []int
	}(window.Ack{})
)

// notNumbers of frames, but near to some, modulo Mod too.
func notNumbers() []int {
	return []int{-1, -2, -api.Mod, -api.Mod + 5, math.MinInt, math.MinInt + 5, api.Mod, api.Mod + 1, api.Mod + 5, 2 * api.Mod, 2*api.Mod + 5, math.MaxInt, math.MaxInt - 5}
}

// begins are first numbers, and what they stand for.
func begins() map[int]int {
	return map[int]int{
		0: 0, 1: 1, 7: 7, api.Mod / 2: api.Mod / 2, api.Mod - 1: api.Mod - 1,
		api.Mod: 0, api.Mod + 7: 7, 2*api.Mod - 1: api.Mod - 1, 5*api.Mod + 3: 3, math.MaxInt: api.Mod - 1,
		-1: 0, -5: 0, -api.Mod: 0, -api.Mod - 3: 0, math.MinInt: 0,
	}
}

// P90: from 1 to Mod over 2 less 1, wherever one begins.
func TestAhead(t *testing.T) {
	for _, a := range []int{0, 1, 2, 1000, api.Mod/2 - 1, api.Mod / 2, api.Mod/2 + 1, api.Mod - 2, api.Mod - 1} {
		for far := range api.Mod {
			b := (a + far) % api.Mod
			if want := far >= 1 && far <= 32767; window.Ahead(a, b) != want {
				t.Fatalf("%d %d: not %v", a, b, want)
			}
		}
	}
}

// P90: what is no number is ahead of none, and none of it.
func TestAheadOfNoNumber(t *testing.T) {
	for _, n := range notNumbers() {
		for _, b := range append(notNumbers(), 0, 1, 5, 6, 40000, api.Mod-1) {
			if window.Ahead(n, b) || window.Ahead(b, n) {
				t.Error(n, b)
			}
		}
	}
}

// xs are that many bytes.
func xs(n int) string { return strings.Repeat("x", n) }

// pushed is a sender of n frames from first on, whose data are "0", "1" and so on.
func pushed(t *testing.T, first, n int) *window.Sender {
	t.Helper()
	s := window.NewSender(first)
	for k := range n {
		wantPush(t, s, fmt.Sprint(k), (first+k)%api.Mod)
	}
	return s
}

func wantPush(t *testing.T, s *window.Sender, data string, want int) {
	t.Helper()
	if n, err := s.Push(data); n != want || err != nil {
		t.Errorf("push %.20q: %d %v, want %d", data, n, err, want)
	}
}

func wantNoPush(t *testing.T, s *window.Sender, data string, want error) {
	t.Helper()
	was := s.Kept()
	if n, err := s.Push(data); n != 0 || err != want {
		t.Errorf("push %d bytes: %d %v, want %v", len(data), n, err, want)
	}
	wantKept(t, s, was...)
}

func wantKept(t *testing.T, s *window.Sender, want ...int) {
	t.Helper()
	if l := s.Kept(); !slices.Equal(l, want) {
		t.Errorf("kept %v, want %v", l, want)
	}
}

func wantTake(t *testing.T, s *window.Sender, a window.Ack, want int) {
	t.Helper()
	if n := s.Take(a); n != want {
		t.Errorf("ack %v: %d gone, want %d", a, n, want)
	}
}

func next(n int) window.Ack           { return window.Ack{Next: n} }
func more(n int, l ...int) window.Ack { return window.Ack{Next: n, More: l} }

// P90: the first number, and those behind it, round Mod.
func TestPush(t *testing.T) {
	for first, want := range begins() {
		s := window.NewSender(first)
		wantKept(t, s)
		var l []int
		for k := range api.MaxWindow {
			n := (want + k) % api.Mod
			wantPush(t, s, fmt.Sprint(k), n)
			l = append(l, n)
			wantKept(t, s, l...)
		}
		for k, n := range l {
			if d, is := s.Data(n); d != fmt.Sprint(k) || !is {
				t.Errorf("from %d: data of %d: %q %v", first, n, d, is)
			}
		}
		wantNoPush(t, s, "", api.ErrFull)
	}
}

// P90: how many bytes there may be; that counts ahead of how many are kept, and changes nothing.
func TestPushBound(t *testing.T) {
	s := window.NewSender(api.Mod - 1)
	wantNoPush(t, s, xs(api.MaxText+1), api.ErrBound)
	wantPush(t, s, xs(api.MaxText), api.Mod-1)
	wantNoPush(t, s, xs(10*api.MaxText), api.ErrBound)
	wantPush(t, s, "", 0)
	if d, is := s.Data(api.Mod - 1); d != xs(api.MaxText) || !is {
		t.Errorf("%d bytes, %v", len(d), is)
	}
	if d, is := s.Data(0); d != "" || !is {
		t.Errorf("%q %v", d, is)
	}
	full := pushed(t, 0, api.MaxWindow)
	wantNoPush(t, full, xs(api.MaxText+1), api.ErrBound)
	wantNoPush(t, full, xs(api.MaxText), api.ErrFull)
}

// P90: the oldest kept one holds all up, also if it is the only one.
func TestPushFull(t *testing.T) {
	for _, first := range []int{0, 100, api.Mod - 32, api.Mod - 31, api.Mod - 7, api.Mod - 1} {
		s := pushed(t, first, api.MaxWindow)
		at := func(k int) int { return (first + k) % api.Mod }
		wantNoPush(t, s, "x", api.ErrFull)
		for k := 1; k < api.MaxWindow; k++ {
			wantTake(t, s, more(at(0), at(k)), 1)
			wantNoPush(t, s, "x", api.ErrFull)
		}
		wantKept(t, s, at(0))
		wantTake(t, s, next(at(1)), 1)
		wantKept(t, s)
		for k := range api.MaxWindow {
			wantPush(t, s, "x", at(32+k))
		}
		wantNoPush(t, s, "x", api.ErrFull)
		wantTake(t, s, more(-1, at(32), at(33), at(35)), 3) // as far as to the oldest one that is left
		wantPush(t, s, "x", at(64))
		wantPush(t, s, "x", at(65))
		wantNoPush(t, s, "x", api.ErrFull)
	}
}

// P90: data are those of a kept one; of any other number there are none.
func TestData(t *testing.T) {
	s := pushed(t, api.Mod-2, 5)
	wantTake(t, s, more(api.Mod-1, 1), 2)
	for n, want := range map[int]string{api.Mod - 1: "1", 0: "2", 2: "4"} {
		if d, is := s.Data(n); d != want || !is {
			t.Errorf("%d: %q %v, want %q", n, d, is, want)
		}
	}
	for _, n := range append(notNumbers(), api.Mod-2, 1, 3, 4, 40000, api.Mod-3) {
		if d, is := s.Data(n); d != "" || is {
			t.Errorf("%d: %q %v", n, d, is)
		}
	}
}

// P90: each number as Next: just those from the oldest kept one on to the next one to be pushed answer anything.
func TestTakeNext(t *testing.T) {
	for _, c := range []struct{ first, n int }{{0, 0}, {0, 1}, {7, 5}, {0, 32}, {api.Mod - 2, 5}, {api.Mod - 32, 32}, {api.Mod - 31, 32}, {api.Mod - 1, 1}, {40000, 32}} {
		for far := range api.Mod {
			if far > 100 && far < api.Mod-100 && far%1009 > 0 {
				continue
			}
			s := pushed(t, c.first, c.n)
			gone := far
			if far > c.n {
				gone = 0
			}
			was := s.Kept()
			wantTake(t, s, next((c.first+far)%api.Mod), gone)
			wantKept(t, s, was[gone:]...)
			wantPushOn(t, s, c.first, c.n, gone)
		}
		for _, n := range notNumbers() {
			s := pushed(t, c.first, c.n)
			wantTake(t, s, next(n), 0)
			wantPushOn(t, s, c.first, c.n, 0)
		}
	}
}

// wantPushOn: numbers go on, whatever was answered.
func wantPushOn(t *testing.T, s *window.Sender, first, n, gone int) {
	t.Helper()
	if n-gone == api.MaxWindow {
		wantNoPush(t, s, "x", api.ErrFull)
		return
	}
	wantPush(t, s, "x", (first+n)%api.Mod)
}

// P90: what is there beyond Next, and what is not kept.
func TestTakeMore(t *testing.T) {
	s := pushed(t, api.Mod-3, 10) // to 6
	wantTake(t, s, window.Ack{Next: 40000, More: notNumbers()}, 0)
	wantTake(t, s, more(40000, 7, 8, api.Mod-4, 40000), 0)
	wantTake(t, s, more(api.Mod-3), 0)
	wantTake(t, s, more(api.Mod-3, 3, 1, 3, 3, 1), 2) // each once
	wantKept(t, s, api.Mod-3, api.Mod-2, api.Mod-1, 0, 2, 4, 5, 6)
	wantTake(t, s, more(api.Mod-3, 3, 1), 0) // the same ack once more
	wantTake(t, s, more(api.Mod-1, api.Mod-3, 0), 3)
	wantKept(t, s, api.Mod-1, 2, 4, 5, 6)
	wantTake(t, s, next(2), 1) // two numbers on, of which one is kept
	wantTake(t, s, more(1, 5), 1)
	wantTake(t, s, more(0, -1, 6, api.Mod+6), 1)
	wantKept(t, s, 2, 4)
	wantTake(t, s, more(8, 2), 1) // one more than the next number is: nothing by it
	wantTake(t, s, next(3), 0)
	wantTake(t, s, next(4), 0)
	wantTake(t, s, next(7), 1)
	wantKept(t, s)
	for _, a := range []window.Ack{next(7), next(8), next(0), more(6, 4, 5, 6, 7), more(7, 7)} {
		wantTake(t, s, a, 0)
	}
	wantPush(t, s, "x", 7)
	wantTake(t, s, more(8, 7), 1)
}

// P90: Next is told from the oldest kept one on, also if numbers ahead of it are answered by More.
func TestTakeNextBehindMore(t *testing.T) {
	s := pushed(t, 0, 20)
	wantTake(t, s, more(0, 0, 1, 2, 5), 4)
	wantTake(t, s, next(2), 0) // ahead of the oldest kept one
	wantTake(t, s, next(3), 0)
	wantTake(t, s, next(7), 3)
	wantKept(t, s, 7, 8, 9, 10, 11, 12, 13, 14, 15, 16, 17, 18, 19)
	wantTake(t, s, more(9, 7, 8, 9), 3)
	wantTake(t, s, next(20), 10)
}

func wantTold(t *testing.T, r *window.Receiver, n int, data string, want ...string) {
	t.Helper()
	if l := r.Take(n, data); !slices.Equal(l, want) {
		t.Errorf("take %d: %.80q, want %.80q", n, l, want)
	}
}

func wantAck(t *testing.T, r *window.Receiver, next int, more ...int) {
	t.Helper()
	if a := r.Ack(); a.Next != next || !slices.Equal(a.More, more) {
		t.Errorf("ack %v, want %d %v", a, next, more)
	}
}

// P91: the first number, told as it comes.
func TestReceiverBegins(t *testing.T) {
	for first, want := range begins() {
		r := window.NewReceiver(first)
		wantAck(t, r, want)
		for k := range 100 {
			wantTold(t, r, (want+k)%api.Mod, fmt.Sprint(k), fmt.Sprint(k))
			wantAck(t, r, (want+k+1)%api.Mod)
		}
	}
}

// P91: each number: what is due is told, those up to MaxWindow less 1 beyond wait, any other one is let go.
func TestReceiverTake(t *testing.T) {
	for _, first := range []int{0, 1, 40000, api.Mod - 32, api.Mod - 31, api.Mod - 1} {
		r := window.NewReceiver(first)
		var waits []int
		for far := api.Mod - 1; far > 0; far-- {
			n := (first + far) % api.Mod
			wantTold(t, r, n, fmt.Sprint(far))
			if far < 32 {
				waits = append([]int{n}, waits...)
			}
			wantAckSometimes(t, r, far, first, waits)
		}
		for _, n := range notNumbers() {
			wantTold(t, r, n, "none")
		}
		wantAck(t, r, first, waits...)
		var all []string
		for far := range 32 {
			all = append(all, fmt.Sprint(far))
		}
		wantTold(t, r, first, "0", all...)
		wantAck(t, r, (first+32)%api.Mod)
	}
}

func wantAckSometimes(t *testing.T, r *window.Receiver, far, first int, waits []int) {
	t.Helper()
	if far < 100 || far%1009 == 0 {
		wantAck(t, r, first, waits...)
	}
}

// P91: what is no number is let go, even if it is one modulo Mod.
func TestReceiverTakesNoNumber(t *testing.T) {
	for _, first := range []int{0, 5, api.Mod - 5, api.Mod - 1} {
		r := window.NewReceiver(first)
		for _, n := range append(notNumbers(), first+api.Mod, first-api.Mod, first+api.Mod+1) {
			wantTold(t, r, n, "x")
			wantAck(t, r, first)
		}
	}
}

// P91: what waits already stays as it is; what was told is not told again.
func TestReceiverDoubled(t *testing.T) {
	r := window.NewReceiver(api.Mod - 2)
	wantTold(t, r, api.Mod-1, "b")
	wantTold(t, r, api.Mod-1, "other")
	wantTold(t, r, 0, "")
	wantTold(t, r, 0, "other")
	wantAck(t, r, api.Mod-2, api.Mod-1, 0)
	wantTold(t, r, api.Mod-2, "a", "a", "b", "")
	for _, n := range []int{api.Mod - 2, api.Mod - 1, 0, api.Mod - 3} {
		wantTold(t, r, n, "other")
	}
	wantAck(t, r, 1)
	wantTold(t, r, 1, "d", "d")
	wantTold(t, r, 2, "", "") // no bytes are told, too
	wantTold(t, r, 3, xs(api.MaxText), xs(api.MaxText))
	wantAck(t, r, 4)
}

// P91: with a gap between, no more is told than is in order.
func TestReceiverGaps(t *testing.T) {
	r := window.NewReceiver(10)
	wantTold(t, r, 12, "12")
	wantTold(t, r, 15, "15")
	wantTold(t, r, 11, "11")
	wantAck(t, r, 10, 11, 12, 15)
	wantTold(t, r, 10, "10", "10", "11", "12")
	wantAck(t, r, 13, 15)
	wantTold(t, r, 44, "44") // 31 beyond
	wantTold(t, r, 45, "45") // let go
	wantAck(t, r, 13, 15, 44)
	wantTold(t, r, 14, "14")
	wantTold(t, r, 13, "13", "13", "14", "15")
	wantAck(t, r, 16, 44)
	wantTold(t, r, 45, "45")
	wantAck(t, r, 16, 44, 45)
}

// P4: lists that come in are only read, those that go out are new.
func TestMemory(t *testing.T) {
	s := pushed(t, 0, 8)
	spoil(s.Kept())
	wantKept(t, s, 0, 1, 2, 3, 4, 5, 6, 7)
	room := []int{5, 3, 5, 7, 1}
	wantTake(t, s, window.Ack{Next: 1, More: room[:3]}, 3)
	if !slices.Equal(room, []int{5, 3, 5, 7, 1}) {
		t.Error(room)
	}
	wantKept(t, s, 1, 2, 4, 6, 7) // 7 and 1 lie behind the list's length

	r := window.NewReceiver(0)
	wantTold(t, r, 1, "1")
	wantTold(t, r, 3, "3")
	a := r.Ack()
	spoil(a.More)
	wantAck(t, r, 0, 1, 3)
	told := r.Take(0, "0")
	told = told[:cap(told)]
	for i := range told {
		told[i] = "spoilt"
	}
	wantAck(t, r, 2, 3)
	wantTold(t, r, 2, "2", "2", "3")
}

// spoil what was answered, also behind its length.
func spoil(l []int) {
	l = l[:cap(l)]
	for i := range l {
		l[i] = 2
	}
}

// P2: each window is its own, also side by side.
func TestSideBySide(t *testing.T) {
	var all sync.WaitGroup
	for w := range 8 {
		all.Go(func() {
			first := w * 9000
			s, r := window.NewSender(first), window.NewReceiver(first)
			for k := range 2000 {
				n, err := s.Push(fmt.Sprint(w, k))
				l := r.Take(n, fmt.Sprint(w, k))
				if n != (first+k)%api.Mod || err != nil || len(l) != 1 || l[0] != fmt.Sprint(w, k) || s.Take(r.Ack()) != 1 {
					t.Error(w, k, n, err, l)
				}
			}
		})
	}
	all.Wait()
}
