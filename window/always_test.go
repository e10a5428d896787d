package window_test

import (
	"fmt"
	"slices"
	"testing"

	"packhorse/api"
	"packhorse/window"
)

// chance is a row of numbers from a seed: the same each time.
type chance uint64

func (c *chance) below(n int) int {
	*c = *c*6364136223846793005 + 1442695040888963407
	return int(uint64(*c) >> 33 % uint64(n))
}

// packet is the k-th frame that was pushed.
type packet struct{ n, k int }

// net between a sender and a receiver, of frames one way and acks the other.
type net struct {
	s      *window.Sender
	r      *window.Receiver
	first  int
	frames []packet
	acks   []window.Ack
	sent   int // how many were pushed
	told   int // how many were told, each held against what was pushed
}

func newNet(first int) *net {
	return &net{s: window.NewSender(first), r: window.NewReceiver(first), first: first}
}

func (x *net) number(k int) int { return (x.first + k) % api.Mod }

func (x *net) push(t *testing.T) {
	n, err := x.s.Push(fmt.Sprint(x.sent))
	if err == api.ErrFull {
		return
	}
	if n != x.number(x.sent) || err != nil {
		t.Fatalf("push %d: %d %v", x.sent, n, err)
	}
	x.frames = append(x.frames, packet{n, x.sent})
	x.sent++
}

// again: the i-th kept one is sent once more.
func (x *net) again(t *testing.T, i int) {
	l := x.s.Kept()
	if len(l) == 0 {
		return
	}
	n := l[i%len(l)]
	var k int
	if d, is := x.s.Data(n); !is {
		t.Fatalf("no data of %d", n)
	} else if fmt.Sscan(d, &k); x.number(k) != n || k < x.sent-api.MaxWindow {
		t.Fatalf("data of %d: %q", n, d)
	}
	x.frames = append(x.frames, packet{n, k})
}

// come: a frame comes, and all that is told is what was pushed, in order.
func (x *net) come(t *testing.T, p packet) {
	for _, d := range x.r.Take(p.n, fmt.Sprint(p.k)) {
		if d != fmt.Sprint(x.told) || x.told >= x.sent {
			t.Fatalf("from %d: told %q, want %d of %d", x.first, d, x.told, x.sent)
		}
		x.told++
	}
	if a := x.r.Ack(); a.Next != x.number(x.told) {
		t.Fatalf("ack %v, %d told", a, x.told)
	}
}

// answer: an ack comes; whatever is kept no more was there.
func (x *net) answer(t *testing.T, a window.Ack) {
	was := x.s.Kept()
	gone := x.s.Take(a)
	kept := x.s.Kept()
	if gone != len(was)-len(kept) {
		t.Fatalf("ack %v: %d gone of %v, kept %v", a, gone, was, kept)
	}
	now := x.r.Ack()
	for _, n := range was {
		there := slices.Contains(now.More, n) || window.Ahead(n, now.Next)
		if !slices.Contains(kept, n) && !there {
			t.Fatalf("ack %v: %d is gone, and is not there", a, n)
		}
	}
}

// comeOld: the k-th frame comes once more, and an ack that was right when it was told.
func (x *net) comeOld(t *testing.T, k int) {
	if k < 0 {
		return
	}
	x.come(t, packet{x.number(k), k})
	if k < x.told {
		x.answer(t, window.Ack{Next: x.number(k), More: []int{x.number(k)}})
	}
}

// step of what a net does to what is under way: in any order, again, or not at all.
func (x *net) step(t *testing.T, c *chance) {
	switch c.below(10) {
	case 0, 1, 2:
		x.push(t)
	case 3:
		x.again(t, c.below(api.MaxWindow))
	case 4, 5:
		if n := len(x.frames); n > 0 {
			x.come(t, x.frames[c.below(n)]) // it may come again
		}
	case 6:
		if n := len(x.frames); n > 0 {
			k := c.below(n)
			x.frames = slices.Delete(x.frames, k, k+1)
		}
	case 7:
		x.acks = append(x.acks, x.r.Ack())
	case 8:
		if n := len(x.acks); n > 0 {
			x.answer(t, x.acks[c.below(n)])
		}
	case 9:
		x.answer(t, x.r.Ack())
	}
	x.frames = x.frames[max(0, len(x.frames)-200):]
	x.acks = x.acks[max(0, len(x.acks)-50):]
}

// finish: nothing is lost any more: all that was pushed is told.
func (x *net) finish(t *testing.T) {
	for range 3 * api.MaxWindow {
		x.again(t, 0)
		if n := len(x.frames); n > 0 {
			x.come(t, x.frames[n-1])
		}
		x.answer(t, x.r.Ack())
	}
	if x.told != x.sent || len(x.s.Kept()) != 0 {
		t.Fatalf("from %d: %d told of %d, kept %v", x.first, x.told, x.sent, x.s.Kept())
	}
}

// P92: what is told is what was pushed, in order, each once.
func TestAlways(t *testing.T) {
	for seed := range 60 {
		c := chance(seed)
		x := newNet([]int{0, api.Mod - 1, api.Mod - 40, c.below(api.Mod)}[seed%4])
		for range 5000 {
			x.step(t, &c)
		}
		x.finish(t)
		if x.told < 200 {
			t.Errorf("seed %d: no more than %d told", seed, x.told)
		}
	}
}

// P92: numbers go round and round; frames and acks come that are almost as old as Mod less 2 times MaxWindow.
func TestAlwaysRound(t *testing.T) {
	const oldest = api.Mod - 2*api.MaxWindow - 1
	c := chance(92)
	x := newNet(api.Mod - 7)
	for range 9000 {
		for range 1 + c.below(api.MaxWindow) {
			x.push(t)
		}
		for len(x.frames) > 0 {
			k := c.below(len(x.frames))
			x.come(t, x.frames[k])
			x.frames = slices.Delete(x.frames, k, k+1)
			for _, old := range []int{1 + c.below(oldest), oldest, oldest - c.below(api.MaxWindow)} {
				x.comeOld(t, x.sent-old)
			}
		}
		x.answer(t, x.r.Ack())
	}
	x.finish(t)
	if x.told < 2*api.Mod {
		t.Errorf("no more than %d told", x.told)
	}
}

// keptOnes is what P90 says of a sender, word by word: numbers that do not go round, and a list.
type keptOnes struct {
	next int
	kept []packet
}

func (m *keptOnes) push(n int) (int, error) {
	if n > 20000 {
		return 0, api.ErrBound
	}
	if len(m.kept) == 32 || len(m.kept) > 0 && m.next-m.kept[0].n == 32 {
		return 0, api.ErrFull
	}
	m.kept = append(m.kept, packet{m.next, n})
	m.next++
	return (m.next - 1) % 65536, nil
}

func (m *keptOnes) take(a window.Ack) int {
	was := len(m.kept)
	upTo := 0
	for n := m.next; len(m.kept) > 0 && n >= m.kept[0].n; n-- {
		if n%65536 == a.Next {
			upTo = n
		}
	}
	m.kept = slices.DeleteFunc(m.kept, func(p packet) bool { return p.n < upTo || slices.Contains(a.More, p.n%65536) })
	return was - len(m.kept)
}

// FuzzSender holds P90 against any pushes and acks.
func FuzzSender(f *testing.F) {
	f.Add(65530, []byte("\x00\x01\x00\x02\x00\x03\x81\x02\x42\x01\x41\x41"))
	f.Add(0, []byte{0, 0, 0, 0, 0, 0, 0, 0, 0, 0, 0, 0, 0, 0, 0, 0, 0, 0, 0, 0, 0, 0, 0, 0, 0, 0, 0, 0, 0, 0, 0, 0, 0, 0, 0, 0, 0, 0, 0x45, 0x43, 0, 0x81, 0, 0})
	f.Add(-1, []byte{0, 0, 0, 0x85, 0x84, 0x41, 0x83, 0})
	f.Fuzz(func(t *testing.T, first int, l []byte) {
		s, m := window.NewSender(first), &keptOnes{next: max(first, 0) % 65536}
		for _, b := range l {
			far := int(b & 63)
			if b < 64 {
				size := int(b&31) * 667 // up to above MaxText
				wantN, wantErr := m.push(size)
				if n, err := s.Push(xs(size)); n != wantN || err != wantErr {
					t.Fatalf("push %d: %d %v, want %d %v", size, n, err, wantN, wantErr)
				}
			} else {
				a := window.Ack{Next: -1, More: []int{(m.next - far + 65536) % 65536, -far, 65536 + far}}
				if b >= 128 {
					a = window.Ack{Next: (m.next + 5 - far + 65536) % 65536}
				}
				if b >= 192 {
					a.More = []int{(m.next - far/2 + 65536) % 65536, a.Next}
				}
				wantTake(t, s, a, m.take(a))
			}
			wantModel(t, s, m)
		}
	})
}

func wantModel(t *testing.T, s *window.Sender, m *keptOnes) {
	t.Helper()
	var want []int
	for _, p := range m.kept {
		want = append(want, p.n%65536)
		if d, is := s.Data(p.n % 65536); len(d) != p.k || !is {
			t.Fatalf("data of %d: %d bytes, %v, want %d", p.n%65536, len(d), is, p.k)
		}
	}
	wantKept(t, s, want...)
}

// FuzzReceiver holds P91 against any frames: what is told, and what waits, by numbers that do not go round.
func FuzzReceiver(f *testing.F) {
	f.Add(65530, []byte{0, 1, 2, 1, 31, 32, 0, 63, 0, 0})
	f.Add(0, []byte{5, 4, 3, 2, 1, 0, 200, 255, 32, 31, 30})
	f.Add(-7, []byte{31, 31, 0, 1, 1, 1, 0, 0, 128})
	f.Fuzz(func(t *testing.T, first int, l []byte) {
		r, due := window.NewReceiver(first), max(first, 0)%65536
		waits := map[int]string{}
		for i, b := range l {
			n, data := due+int(b), fmt.Sprint(i)
			if b >= 64 { // as far behind as beyond
				n = due + 65536 - int(b-63)
			}
			if _, is := waits[n]; n <= due+31 && !is {
				waits[n] = data
			}
			var want []string
			for ; waits[due] != ""; due++ {
				want = append(want, waits[due])
				delete(waits, due)
			}
			wantTold(t, r, n%65536, data, want...)
			var more []int
			for n := due; n < due+32; n++ {
				if waits[n] != "" {
					more = append(more, n%65536)
				}
			}
			wantAck(t, r, due%65536, more...)
		}
	})
}

// FuzzNet holds P92 against any seed.
func FuzzNet(f *testing.F) {
	f.Add(65535, uint64(1))
	f.Fuzz(func(t *testing.T, first int, seed uint64) {
		c := chance(seed)
		x := newNet(max(first, 0) % api.Mod)
		for range 2000 {
			x.step(t, &c)
		}
		x.finish(t)
	})
}
