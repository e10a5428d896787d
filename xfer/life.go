package xfer

import (
	"packhorse/files"
	"packhorse/flow"
	"packhorse/gate"
	"packhorse/window"
)

// life is what the destination knows, and forgets when it begins anew.
type life struct {
	epochs *gate.Gate
	flow   *flow.Flow
	out    *window.Sender
	asked  map[int]question // by the numbers of their frames
	wanted []files.Line     // is still to be asked for, in this order
	now    int              // ticks
}

func newLife(epochs *gate.Gate) life {
	return life{epochs: epochs, flow: flow.New(), out: window.NewSender(0), asked: map[int]question{}}
}

// answered: the question of this number is kept no more, and more may be under way.
func (l *life) answered(n int) {
	delete(l.asked, n)
	l.out.Take(window.Ack{Next: noNumber, More: []int{n}})
	l.flow.Good()
}

// noNumber of a frame: answers come in any order, so that none says that all ahead of it are there.
const noNumber = -1
