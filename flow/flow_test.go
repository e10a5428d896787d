package flow_test

import (
	"slices"
	"sync"
	"testing"

	"packhorse/api"
	"packhorse/flow"
)

// The face, as it is given.
var (
	_ func() *flow.Flow    = flow.New
	_ func(*flow.Flow)     = (*flow.Flow).Good
	_ func(*flow.Flow)     = (*flow.Flow).Bad
	_ func(*flow.Flow) int = (*flow.Flow).Window
	_ func(*flow.Flow) int = (*flow.Flow).Wait
	_ func(*flow.Flow) int = (*flow.Flow).Limit
	_ func([]bool) []int   = flow.Play
)

func wantFlow(t *testing.T, f *flow.Flow, window, limit, wait int) {
	t.Helper()
	if f.Window() != window || f.Limit() != limit || f.Wait() != wait {
		t.Errorf("window %d, limit %d, wait %d, want %d %d %d", f.Window(), f.Limit(), f.Wait(), window, limit, wait)
	}
}

func good(f *flow.Flow, n int) {
	for range n {
		f.Good()
	}
}

func bad(f *flow.Flow, n int) {
	for range n {
		f.Bad()
	}
}

// limited is a flow whose window is 1, and whose limit is as great as that: 1 to 16.
func limited(t *testing.T, limit int) *flow.Flow {
	t.Helper()
	f := flow.New()
	good(f, 2*limit-1)
	f.Bad()
	wantFlow(t, f, 1, limit, 4)
	return f
}

// P100: what it begins with; to ask changes nothing.
func TestNew(t *testing.T) {
	f := flow.New()
	for range 3 {
		wantFlow(t, f, 1, 32, 2)
	}
}

// P100: one more with each answer, MaxWindow at most.
func TestGoodUpToTheLimit(t *testing.T) {
	f := flow.New()
	for n := range 31 {
		wantFlow(t, f, n+1, 32, 2)
		f.Good()
	}
	for range 200 {
		wantFlow(t, f, 32, 32, 2)
		f.Good()
	}
}

// P100: beyond the limit as many answers for one more as the window is, from each limit there can be.
func TestGoodBeyondTheLimit(t *testing.T) {
	for limit := 1; limit <= 16; limit++ {
		f := limited(t, limit)
		for n := 2; n <= limit; n++ {
			f.Good()
			wantFlow(t, f, n, limit, 2)
		}
		for n := limit; n < 32; n++ {
			good(f, n-1)
			if f.Window() != n {
				t.Errorf("limit %d: window %d, want %d", limit, f.Window(), n)
			}
			f.Good()
			wantFlow(t, f, n+1, limit, 2)
		}
		for range 200 {
			f.Good()
			wantFlow(t, f, 32, limit, 2)
		}
	}
}

// P100: the limit is half of each window there can be (down, at least 1), not of the limit that was.
func TestBadLimit(t *testing.T) {
	for more, limit := range []int{1, 1, 1, 2, 2, 3, 3, 4, 4, 5, 5, 6, 6, 7, 7, 8, 8, 9, 9, 10, 10, 11, 11, 12, 12, 13, 13, 14, 14, 15, 15, 16} {
		f := flow.New()
		good(f, more)
		wantFlow(t, f, 1+more, 32, 2)
		f.Bad()
		wantFlow(t, f, 1, limit, 4)
		f.Bad()
		wantFlow(t, f, 1, 1, 8)
	}
	f := limited(t, 3)
	good(f, 1000) // the window is beyond the limit, and so is half of it
	f.Bad()
	wantFlow(t, f, 1, 16, 4)
	good(f, 2)
	f.Bad()
	wantFlow(t, f, 1, 1, 4)
}

// P100: the wait twice as long, up to MaxWait, and 2 again with an answer from wherever it is.
func TestWait(t *testing.T) {
	for n, wait := range []int{2, 4, 8, 16, 32, 64, 64, 64, 64} {
		f := flow.New()
		bad(f, n)
		if f.Wait() != wait {
			t.Errorf("%d bad ones: wait %d, want %d", n, f.Wait(), wait)
		}
		f.Good()
		if f.Wait() != 2 {
			t.Errorf("%d bad ones, a good one: wait %d", n, f.Wait())
		}
	}
	f := flow.New()
	bad(f, 5000) // so many that a wait without a bound would have gone round
	wantFlow(t, f, 1, 1, 64)
	f.Good()
	wantFlow(t, f, 2, 1, 2)
}

// P100: answers count for the window to which they came: none for the next one, none from below the limit, none from ahead of a bad one, none from where there was no room for more.
func TestAnswersCountOnce(t *testing.T) {
	f := limited(t, 4)
	good(f, 3)
	good(f, 3)
	wantFlow(t, f, 4, 4, 2) // three that came below the limit do not count
	f.Good()
	wantFlow(t, f, 5, 4, 2)
	good(f, 4)
	wantFlow(t, f, 5, 4, 2)
	f.Bad()
	wantFlow(t, f, 1, 2, 4)
	f.Good()
	wantFlow(t, f, 2, 2, 2)
	f.Good()
	wantFlow(t, f, 2, 2, 2) // four that came ahead of the bad one do not count
	f.Good()
	wantFlow(t, f, 3, 2, 2)

	f = flow.New()
	good(f, 31+17)
	f.Bad()
	good(f, 15)
	wantFlow(t, f, 16, 16, 2)
	good(f, 15)
	wantFlow(t, f, 16, 16, 2)
	f.Good()
	wantFlow(t, f, 17, 16, 2)
}

func wantPlay(t *testing.T, l []bool, want ...int) {
	t.Helper()
	if got := flow.Play(l); !slices.Equal(got, want) {
		t.Errorf("%v: %v, want %v", l, got, want)
	}
}

// P101: the window behind each one.
func TestPlay(t *testing.T) {
	wantPlay(t, nil)
	wantPlay(t, []bool{})
	wantPlay(t, []bool{true}, 2)
	wantPlay(t, []bool{false}, 1)
	wantPlay(t, []bool{true, true, false, true}, 2, 3, 1, 2)
	wantPlay(t, []bool{true, true, true, false, true, true, true, true, true, false, false, true}, 2, 3, 4, 1, 2, 2, 3, 3, 3, 1, 1, 2)
	if l := flow.Play(make([]bool, 100000)); len(l) != 100000 || slices.Max(l) != 1 {
		t.Error(len(l))
	}
}

// P4: the list is only read, and as far as it is long; what is answered is new.
func TestPlayMemory(t *testing.T) {
	room := []bool{true, false, true, true, true}
	l := flow.Play(room[:3])
	if !slices.Equal(l, []int{2, 1, 2}) || !slices.Equal(room, []bool{true, false, true, true, true}) {
		t.Error(l, room)
	}
	l = l[:cap(l)]
	for i := range l {
		l[i] = 9
	}
	wantPlay(t, room[:3], 2, 1, 2)
}

// P2: each flow is its own, also side by side.
func TestSideBySide(t *testing.T) {
	var all sync.WaitGroup
	for w := range 8 {
		all.Go(func() {
			f := flow.New()
			for k := range 3000 {
				if k%(40+w) == 39 {
					f.Bad()
				} else {
					f.Good()
				}
			}
			l := make([]bool, 3000)
			for k := range l {
				l[k] = k%(40+w) != 39
			}
			if p := flow.Play(l); p[2999] != f.Window() || p[2999] != windowOf(l) {
				t.Error(w, p[2999], f.Window(), windowOf(l))
			}
		})
	}
	all.Wait()
}

// P5: the bounds that a flow is told of.
func TestBounds(t *testing.T) {
	f := flow.New()
	good(f, 1000)
	if f.Window() != api.MaxWindow || f.Limit() != api.MaxWindow {
		t.Error(f.Window(), f.Limit())
	}
	bad(f, 1000)
	if f.Wait() != api.MaxWait {
		t.Error(f.Wait())
	}
}
