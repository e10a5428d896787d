package xfer_test

import (
	"math"
	"slices"
	"testing"

	"packhorse/api"
	"packhorse/xfer"
)

// one file is new: of what is sent, nothing comes but by a number.
func oneFile() sides { return sides{from: []api.File{file("a", "xy")}} }

// wantUnder: so many are under way behind a number.
func wantUnder(t *testing.T, x *xfer.Xfer, v, want int) {
	t.Helper()
	x.Do(v)
	if n := x.Under(); n != want {
		t.Fatalf("%d: %d under way, want %d", v, n, want)
	}
}

// asked is an xfer whose one frame under way is one that is answered by one.
func asked(t *testing.T) *xfer.Xfer {
	t.Helper()
	x := newXfer(t, oneFile())
	for k := 0; x.Under() == 0 && k < 100; k++ {
		x.Do(tick)
	}
	if x.Under() != 1 {
		t.Fatalf("%d under way at first", x.Under())
	}
	return x
}

func TestBelowZero(t *testing.T) {
	x, other := asked(t), asked(t)
	for _, v := range []int{-1, -2, -3, -4, -5, -6, -7, -8, -9, math.MinInt, math.MinInt + 3, math.MinInt + 7} {
		wantUnder(t, x, v, 1)
	}
	for v := range 100 {
		x.Do(v)
		wantUnder(t, other, v, x.Under())
	}
}

// P140: it is the q modulo as many as there are -th that comes: of two, one is turned, and not answered.
func TestWhichComes(t *testing.T) {
	for kind := come; kind <= come2; kind++ {
		for _, q := range []int{0, 1, 2, 3, 1000, math.MaxInt/8 - 1, math.MaxInt / 8} {
			x := asked(t)
			x.Do(double)
			x.Do(turn)
			wantUnder(t, x, kind+8*q, 1+q%2)
		}
	}
}

func TestWhichIsLost(t *testing.T) {
	for _, c := range []struct{ q, under int }{{0, 1}, {1, 0}, {2, 1}, {5, 0}} {
		x := asked(t)
		x.Do(double)
		x.Do(turn)
		wantUnder(t, x, lose+8*c.q, 1)
		wantUnder(t, x, come, c.under)
	}
}

// P140: what is there twice is as it was, also turned.
func TestWhichIsThereTwice(t *testing.T) {
	for _, c := range []struct{ q, answers int }{{0, 1}, {1, 2}, {2, 1}, {7, 2}} {
		x := asked(t)
		x.Do(double)
		x.Do(turn)
		wantUnder(t, x, double+8*c.q, 3)
		for range 3 {
			x.Do(come)
		}
		if x.Under() != c.answers {
			t.Errorf("q %d: %d answers, want %d", c.q, x.Under(), c.answers)
		}
	}
}

func TestThereTwiceUpTo500(t *testing.T) {
	x := asked(t)
	for k := 2; k <= 500; k++ {
		wantUnder(t, x, double, k)
	}
	wantUnder(t, x, double, 500)
	wantUnder(t, x, double+8*499, 500)
	wantUnder(t, x, lose, 499)
	wantUnder(t, x, double, 500)
	wantFinish(t, x, oneFile())
}

func TestNoneUnderWay(t *testing.T) {
	x := asked(t)
	wantUnder(t, x, lose, 0)
	for v := range 400 {
		if v%8 < tick {
			wantUnder(t, x, v, 0)
		}
	}
	wantUnder(t, x, math.MaxInt-7+double, 0)
	wantFinish(t, x, oneFile())
}

// P140: whatever bit is turned, the frame is none.
func TestTurned(t *testing.T) {
	for q := range 400 {
		x := asked(t)
		wantUnder(t, x, turn+8*q, 1)
		wantUnder(t, x, come, 0)
	}
	x := asked(t)
	wantUnder(t, x, math.MaxInt-7+turn, 1)
	wantUnder(t, x, come, 0)
	wantFinish(t, x, oneFile())
}

// P140: a frame that was turned is not turned again, neither back nor at another place; nor is its double.
func TestTurnedOnce(t *testing.T) {
	x := asked(t)
	x.Do(turn + 8*3)
	wantUnder(t, x, turn+8*3, 1)
	wantUnder(t, x, come, 0)

	x = asked(t)
	x.Do(turn + 8*3)
	x.Do(double)
	x.Do(lose)
	x.Do(turn + 8*3)
	wantUnder(t, x, come, 0)
}

// P140: it is the first one that is turned; those behind stay.
func TestFirstIsTurned(t *testing.T) {
	x := asked(t)
	x.Do(double)
	x.Do(turn)
	x.Do(turn + 8)
	x.Do(turn + 16)
	wantUnder(t, x, come, 1)
	wantUnder(t, x, come, 1)
	wantFinish(t, x, oneFile())
}

// P140: what was lost is sent again by ticks.
func TestTicks(t *testing.T) {
	x := asked(t)
	for range 10 {
		wantUnder(t, x, lose, 0)
		for k := 0; x.Under() == 0; k++ {
			if k > 2*api.MaxWait {
				t.Fatal("nothing is sent again")
			}
			x.Do(tick)
		}
	}
	wantFinish(t, x, oneFile())
}

// What is sent again grows slower and slower: nobody answers.
func TestTicksWithNoAnswer(t *testing.T) {
	for _, s := range pairs() {
		x := newXfer(t, s)
		for range 6400 {
			x.Do(tick)
		}
		if x.Under() > 120 {
			t.Errorf("%d under way", x.Under())
		}
		wantFinish(t, x, s)
	}
}

// later is an xfer in its second life, or a later one: of the frames of earlier ones none is under way.
func later(t *testing.T, s sides, lives int) *xfer.Xfer {
	t.Helper()
	x := newXfer(t, s)
	for range lives {
		for x.Under() > 0 {
			x.Do(lose)
		}
		x.Do(anew)
	}
	return x
}

// toLast does all frames in order but the last one that it takes: with that one it would be done.
func toLast(t *testing.T, s sides, lives int) *xfer.Xfer {
	t.Helper()
	x, steps := later(t, s, lives), 0
	for !x.Done() {
		x.Do(come)
		steps++
	}
	x = later(t, s, lives)
	for range steps - 1 {
		x.Do(come)
	}
	if x.Done() || x.Under() == 0 {
		t.Fatalf("done: %t, under way: %d", x.Done(), x.Under())
	}
	return x
}

// P140: the destination forgets all but its files: the frame that would have made it done does not.
func TestBeginsAnew(t *testing.T) {
	for i, s := range pairs() {
		for _, lives := range []int{0, 1, 2, 3, 98, 99, 100, 101, 250} {
			x := toLast(t, s, lives)
			x.Do(come)
			wantAll(t, x, s)

			x = toLast(t, s, lives)
			was := x.To()
			x.Do(anew)
			for range x.Under() {
				x.Do(come)
				if x.Done() || !slices.Equal(x.To(), was) {
					t.Fatalf("%d: in life %d an answer of an earlier one was taken", i, lives)
				}
			}
			wantFinish(t, x, s)
		}
	}
}

// P140: in none of hundreds of lives an answer of the first one is taken.
func TestAnswerOfTheFirstLife(t *testing.T) {
	for i, s := range pairs() {
		x := toLast(t, s, 0)
		was := x.To()
		for life := range 300 {
			for x.Under() > 1 {
				x.Do(lose + 8)
			}
			x.Do(double)
			x.Do(anew)
			x.Do(come)
			if x.Done() || !slices.Equal(x.To(), was) {
				t.Fatalf("%d: taken in life %d", i, life)
			}
		}
		wantFinish(t, x, s)
	}
}

// P140: begun anew hundreds of times, and answers of all these lives are under way.
func TestManyLives(t *testing.T) {
	for _, s := range pairs() {
		x := newXfer(t, s)
		for k := range 450 {
			x.Do(anew)
			x.Do(come + 8*k)
			if k%7 == 0 {
				x.Do(double + 8*k)
			}
			wantNear(t, x, s)
		}
		for range 5 {
			x.Do(anew)
			for range x.Under() {
				x.Do(come + 8*(x.Under()-1))
				wantNear(t, x, s)
			}
		}
		wantFinish(t, x, s)
	}
}
