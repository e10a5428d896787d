package weak

import "packhorse/api"

// halves of a sum, each of them modulo api.Mod: bytes adds up the bytes, and
// places adds them up times their place, counted from the end.
type halves struct{ bytes, places int }

// mod keeps a difference below 0 among the numbers from 0 on, which % does not.
func mod(n int) int { return (n%api.Mod + api.Mod) % api.Mod }

func halve(sum int) halves { return halves{sum % api.Mod, sum / api.Mod} }

func (h halves) whole() int { return h.bytes + api.Mod*h.places }

func sumOf(s string) halves {
	var h halves
	for i := 0; i < len(s); i++ {
		h = h.add(s[i])
	}
	return h
}

// add puts a byte behind: every place ahead of it grows by 1, and so the
// places by all bytes once more.
func (h halves) add(in byte) halves {
	bytes := mod(h.bytes + int(in))
	return halves{bytes, mod(h.places + bytes)}
}

// drop takes the first of n bytes away: it counts n times, and no other place changes.
func (h halves) drop(n int, out byte) halves {
	return halves{mod(h.bytes - int(out)), mod(h.places - n*int(out))}
}

// roll drops ahead of adding: n is the place of the first byte only as long
// as nothing has come behind it.
func (h halves) roll(n int, out, in byte) halves { return h.drop(n, out).add(in) }

// join puts n bytes behind: every place of the first ones grows by n.
func (h halves) join(next halves, n int) halves {
	return halves{mod(h.bytes + next.bytes), mod(h.places + n*h.bytes + next.places)}
}
