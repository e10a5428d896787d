package window

import "packhorse/api"

// Receiver of frames.
type Receiver struct {
	due   int
	waits frames
}

// NewReceiver from a number on.
func NewReceiver(first int) *Receiver {
	return &Receiver{due: begin(first), waits: frames{}}
}

// Take a frame.
func (r *Receiver) Take(n int, data string) []string {
	if isNumber(n) && gap(r.due, n) < api.MaxWindow && !r.waits.has(n) {
		r.waits[n] = frame{data}
	}
	return r.tell()
}

// Ack of what is there.
func (r *Receiver) Ack() Ack {
	return Ack{Next: r.due, More: r.waits.inOrder(r.due, api.MaxWindow)}
}

// tell what is due, for as long as it is there.
func (r *Receiver) tell() []string {
	var told []string
	for r.waits.has(r.due) {
		told = append(told, r.waits[r.due].data)
		delete(r.waits, r.due)
		r.due = after(r.due)
	}
	return told
}
