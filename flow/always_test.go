package flow_test

import (
	"slices"
	"testing"

	"packhorse/flow"
)

// state of a flow.
type state struct{ window, limit, wait int }

// stateOf is what P100 says of a flow behind a list, from bad one to bad one, without a step for each good one.
func stateOf(l []bool) state {
	s := state{1, 32, 2}
	for len(l) > 0 {
		k := slices.Index(l, false)
		if k < 0 {
			return state{reached(s.limit, len(l)), s.limit, 2}
		}
		if k > 0 {
			s.wait = 2
		}
		s = state{1, max(1, reached(s.limit, k)/2), min(64, 2*s.wait)}
		l = l[k+1:]
	}
	return s
}

// reached is the window, of a limit, after so many answers in a row from 1 on.
func reached(limit, answers int) int {
	if answers < limit {
		return 1 + answers
	}
	window := limit
	for left := answers - (limit - 1); window < 32 && left >= window; window++ {
		left -= window
	}
	return window
}

func windowOf(l []bool) int { return stateOf(l).window }

// behind is the flow behind a list.
func behind(l []bool) *flow.Flow {
	f := flow.New()
	for _, is := range l {
		if is {
			f.Good()
		} else {
			f.Bad()
		}
	}
	return f
}

// wantAlways holds a list against P100 to P102.
func wantAlways(t *testing.T, l []bool) {
	t.Helper()
	f := behind(l)
	if got, want := (state{f.Window(), f.Limit(), f.Wait()}), stateOf(l); got != want {
		t.Fatalf("%v: %v, want %v", l, got, want)
	}
	if f.Window() < 1 || f.Window() > 32 || f.Wait() < 2 || f.Wait() > 64 || f.Limit() < 1 || f.Limit() > 32 {
		t.Fatalf("%v: window %d, limit %d, wait %d", l, f.Window(), f.Limit(), f.Wait())
	}
	was := f.Window()
	if f.Good(); f.Window() < was {
		t.Fatalf("%v: %d, and one more good one: %d", l, was, f.Window())
	}
	p := flow.Play(append(slices.Clone(l), true))
	if len(p) != len(l)+1 || p[len(l)] != f.Window() || len(l) > 0 && p[len(l)-1] != was {
		t.Fatalf("%v: played %v, want %d, %d at the end", l, p, was, f.Window())
	}
}

// P102: each list of up to 13.
func TestAlwaysShort(t *testing.T) {
	for long := range 14 {
		for bits := range 1 << long {
			l := make([]bool, long)
			for i := range l {
				l[i] = bits>>i&1 == 1
			}
			wantAlways(t, l)
		}
	}
}

// P102: after each window, and each limit, there can be; up to where there is no more room.
func TestAlwaysLong(t *testing.T) {
	for first := range 34 {
		for second := range 34 {
			for _, third := range []int{0, 1, second, 40, 700} {
				wantAlways(t, runs(first, second, third))
			}
		}
	}
	for second := range 600 {
		wantAlways(t, runs(40, second, 20))
	}
}

// runs of good ones, with a bad one between.
func runs(l ...int) []bool {
	var out []bool
	for i, n := range l {
		if i > 0 {
			out = append(out, false)
		}
		out = append(out, slices.Repeat([]bool{true}, n)...)
	}
	return out
}

// P102: what is played is right at each place, not only at the end.
func TestAlwaysEachPlace(t *testing.T) {
	for k := range 40 {
		l := runs(k, 3*k, 0, 1, 500, k, k, 0, 0, 0, 2*k)
		p := flow.Play(l)
		for i, window := range p {
			if want := windowOf(l[:i+1]); window != want {
				t.Fatalf("%d: window %d behind %d of them, want %d", k, window, i+1, want)
			}
		}
		if len(p) != len(l) {
			t.Errorf("%d of %d", len(p), len(l))
		}
	}
}

// FuzzFlow holds P100 to P102 against any runs of good ones and bad ones.
func FuzzFlow(f *testing.F) {
	f.Add([]byte{4, 1, 6, 0, 0, 3})
	f.Add([]byte{31, 0, 255, 255, 9})
	f.Add([]byte{0, 0, 0, 0, 0, 0, 0})
	f.Fuzz(func(t *testing.T, l []byte) {
		var n []int
		for _, b := range l {
			n = append(n, int(b))
		}
		wantAlways(t, runs(n...))
	})
}
