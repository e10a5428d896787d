package xfer

import "packhorse/frame"

// Where a frame goes.
const (
	toSource = iota
	toDestination
)

// maxDoubled: from so many frames under way on, none is doubled.
const maxDoubled = 500

// parcel is a frame under way, as its bytes.
type parcel struct {
	bytes  string
	to     int
	turned bool
}

// net keeps what is under way, the oldest first.
type net struct{ way []parcel }

// send a frame. One that can't be written as bytes is lost, as any other one may be.
func (n *net) send(f frame.Frame, to int) {
	if s, err := frame.Encode(f); err == nil {
		n.way = append(n.way, parcel{bytes: s, to: to})
	}
}

// take the q modulo as many as there are -th away from the net, if there is any.
func (n *net) take(q int) (parcel, bool) {
	if len(n.way) == 0 {
		return parcel{}, false
	}
	k := q % len(n.way)
	p := n.way[k]
	// Those ahead of it move up, not those behind: mostly it is one of the first, and there may be many behind.
	copy(n.way[1:k+1], n.way[:k])
	n.way[0] = parcel{}
	n.way = n.way[1:]
	return p, true
}

// double the q modulo as many as there are -th: the other one is under way as if it were sent now.
func (n *net) double(q int) {
	if len(n.way) > 0 && len(n.way) < maxDoubled {
		n.way = append(n.way, n.way[q%len(n.way)])
	}
}

// turn bit q modulo as many as there are, of the first frame. One that was turned, or is the double of one that was, stays as it is: turned again, it might be a frame.
func (n *net) turn(q int) {
	if len(n.way) == 0 || n.way[0].turned {
		return
	}
	p := &n.way[0]
	b := []byte(p.bytes)
	bit := q % (8 * len(b))
	b[bit/8] ^= 1 << (bit % 8)
	p.bytes, p.turned = string(b), true
}
