package window

import "packhorse/api"

// Sender of frames.
type Sender struct {
	oldest int // the oldest kept one, or, if none is kept, next
	next   int
	kept   frames
}

// NewSender from a number on.
func NewSender(first int) *Sender {
	n := begin(first)
	return &Sender{oldest: n, next: n, kept: frames{}}
}

// Push a frame.
func (s *Sender) Push(data string) (int, error) {
	if len(data) > api.MaxText {
		return 0, api.ErrBound
	}
	// Asked of the numbers, not of how many are kept: with MaxWindow kept the oldest one is as far ahead, too.
	if gap(s.oldest, s.next) >= api.MaxWindow {
		return 0, api.ErrFull
	}
	n := s.next
	s.kept[n] = frame{data}
	s.next = after(n)
	return n, nil
}

// Kept numbers.
func (s *Sender) Kept() []int { return s.kept.inOrder(s.oldest, gap(s.oldest, s.next)) }

// Data of a kept one.
func (s *Sender) Data(n int) (string, bool) {
	f, is := s.kept[n]
	return f.data, is
}

// Take an ack.
func (s *Sender) Take(a Ack) int {
	before := len(s.kept)
	drop := func(n int) { delete(s.kept, n) }
	round(s.oldest, s.answeredBy(a.Next), drop)
	for _, n := range a.More {
		drop(n)
	}
	s.findOldest()
	return before - len(s.kept)
}

// answeredBy is how many numbers, from the oldest kept one on, are ahead of an ack's next one.
func (s *Sender) answeredBy(next int) int {
	if !isNumber(next) {
		return 0
	}
	n := gap(s.oldest, next)
	if n > gap(s.oldest, s.next) { // an ack that is late, or of numbers that were never given
		return 0
	}
	return n
}

// findOldest goes on to what is kept still, or to the next number.
func (s *Sender) findOldest() {
	for s.oldest != s.next && !s.kept.has(s.oldest) {
		s.oldest = after(s.oldest)
	}
}
