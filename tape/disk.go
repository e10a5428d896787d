package tape

import "packhorse/api"

// write all of s, or as much of it as there is power for.
func (d *Disk) write(s string) error {
	if len(s) > api.MaxBytes-len(d.bytes) {
		return api.ErrFull
	}
	if d.off {
		return api.ErrOff
	}
	n := d.spend(len(s))
	d.bytes = append(d.bytes, s[:n]...)
	if d.off {
		return api.ErrOff
	}
	return nil
}

// spend power on n bytes: for how many of them there is some. Only one byte more than a cut leaves ends it, so that what just fits is whole.
func (d *Disk) spend(n int) int {
	if !d.cut {
		return n
	}
	if n > d.left {
		n, d.off = d.left, true
	}
	d.left -= n
	return n
}
