package sum

import "math/bits"

// polynomial has its lowest power in its highest bit, as the bits of a sum have.
const polynomial = 0xEDB88320

// made is what each bit of a sum makes over some number of zero bytes. Bits
// don't touch each other there, so it tells what every sum makes.
type made [32]uint32

// divide is what the rest c is a byte later.
func divide(c uint32) uint32 {
	for range 8 {
		c = c>>1 ^ polynomial*(c&1)
	}
	return c
}

func overOneByte() made {
	var m made
	for i := range m {
		m[i] = divide(1 << i)
	}
	return m
}

func (m made) of(c uint32) uint32 {
	var out uint32
	for ; c != 0; c &= c - 1 {
		out ^= m[bits.TrailingZeros32(c)]
	}
	return out
}

func (m made) overTwiceAsMany() made {
	var out made
	for i, c := range m {
		out[i] = m.of(c)
	}
	return out
}

// behind is what c makes over n zero bytes. It goes by the bits of n, since n
// may be far greater than any text that is at hand.
func behind(c uint32, n int) uint32 {
	for m := overOneByte(); n > 0; n >>= 1 {
		if n&1 == 1 {
			c = m.of(c)
		}
		m = m.overTwiceAsMany()
	}
	return c
}
