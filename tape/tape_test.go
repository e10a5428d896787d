package tape_test

import (
	"math"
	"slices"
	"strings"
	"sync"
	"testing"

	"packhorse/api"
	"packhorse/tape"
)

// The face, as it is given.
var (
	_ func(string) (*tape.Disk, error)   = tape.NewDisk
	_ func(*tape.Disk, int) error        = (*tape.Disk).Cut
	_ func(*tape.Disk)                   = (*tape.Disk).On
	_ func(*tape.Disk) bool              = (*tape.Disk).Power
	_ func(*tape.Disk) string            = (*tape.Disk).Bytes
	_ func(*tape.Disk, string) error     = tape.Append
	_ func(string) ([]string, int)       = tape.Read
	_ func(*tape.Disk) ([]string, error) = tape.Recover
)

func xs(n int) string { return strings.Repeat("x", n) }

func newDisk(t *testing.T, b string) *tape.Disk {
	t.Helper()
	d, err := tape.NewDisk(b)
	if err != nil || d == nil {
		t.Fatalf("a disk of %d bytes: %v", len(b), err)
	}
	wantDisk(t, d, b, true)
	return d
}

func wantDisk(t *testing.T, d *tape.Disk, b string, power bool) {
	t.Helper()
	if got := d.Bytes(); got != b {
		t.Errorf("%d bytes %.60q, want %d %.60q", len(got), got, len(b), b)
	}
	if d.Power() != power {
		t.Errorf("power %v, want %v", d.Power(), power)
	}
}

// wantAppend: all of want is written behind what is there.
func wantAppend(t *testing.T, d *tape.Disk, s, want string) {
	t.Helper()
	was := d.Bytes()
	if err := tape.Append(d, s); err != nil {
		t.Errorf("append %.60q: %v", s, err)
	}
	wantDisk(t, d, was+want, true)
}

// wantNoAppend: it is refused, and nothing is written.
func wantNoAppend(t *testing.T, d *tape.Disk, s string, want error) {
	t.Helper()
	was, power := d.Bytes(), d.Power()
	if err := tape.Append(d, s); err != want {
		t.Errorf("append %d bytes: %v, want %v", len(s), err, want)
	}
	wantDisk(t, d, was, power)
}

// wantFails: power fails behind these bytes.
func wantFails(t *testing.T, d *tape.Disk, s, want string) {
	t.Helper()
	was := d.Bytes()
	if err := tape.Append(d, s); err != api.ErrOff {
		t.Errorf("append %.60q: %v, want %v", s, err, api.ErrOff)
	}
	wantDisk(t, d, was+want, false)
}

func wantCut(t *testing.T, d *tape.Disk, n int, want error) {
	t.Helper()
	was, power := d.Bytes(), d.Power()
	if err := d.Cut(n); err != want {
		t.Errorf("cut %d: %v, want %v", n, err, want)
	}
	wantDisk(t, d, was, power) // it is cut later, not now
}

// P120: any bytes, as they are, up to MaxBytes.
func TestNewDisk(t *testing.T) {
	for _, b := range []string{"", "x", "1:y\n.", "\x00\xff\n.", "10:", xs(api.MaxBytes - 1), xs(1048576)} {
		newDisk(t, b)
	}
	for _, n := range []int{1048577, api.MaxBytes + 2, 2 * api.MaxBytes} {
		if d, err := tape.NewDisk(xs(n)); d != nil || err != api.ErrBound {
			t.Errorf("%d bytes: %v %v", n, d != nil, err)
		}
	}
}

// P120: a record is how many bytes there are, a colon, they, a line end, a dot; of any bytes.
func TestAppend(t *testing.T) {
	d := newDisk(t, "")
	for _, c := range [][2]string{
		{"", "0:\n."}, {"y", "1:y\n."}, {"a\n.b", "4:a\n.b\n."}, {"\n.", "2:\n.\n."}, {"1:y\n.", "5:1:y\n.\n."}, {":", "1::\n."},
		{"\x00\xff\r", "3:\x00\xff\r\n."}, {"ä", "2:ä\n."}, {xs(9), "9:" + xs(9) + "\n."}, {xs(10), "10:" + xs(10) + "\n."},
		{xs(19999), "19999:" + xs(19999) + "\n."}, {xs(20000), "20000:" + xs(20000) + "\n."}, {"", "0:\n."},
	} {
		wantAppend(t, d, c[0], c[1])
	}
}

// P120: it is written at the end, whatever stands there.
func TestAppendBehind(t *testing.T) {
	for _, b := range []string{"x", "1:y\n.", "1:y\n", "5:", "\n."} {
		d := newDisk(t, b)
		wantAppend(t, d, "abc", "3:abc\n.")
		wantAppend(t, d, "", "0:\n.")
	}
}

// P120: no more than MaxText bytes, whatever else there is.
func TestAppendBound(t *testing.T) {
	off := newDisk(t, "")
	wantCut(t, off, 0, nil)
	wantFails(t, off, "", "")
	for _, d := range []*tape.Disk{newDisk(t, ""), newDisk(t, xs(api.MaxBytes)), off} {
		for _, n := range []int{20001, 20002, api.MaxBytes, api.MaxBytes + 1} {
			wantNoAppend(t, d, xs(n), api.ErrBound)
		}
	}
}

// P120: no more than MaxBytes bytes on a disk; a record that just fits does.
func TestAppendFull(t *testing.T) {
	for _, c := range []struct {
		s    string
		need int
	}{{"", 4}, {"y", 5}, {xs(9), 13}, {xs(10), 15}, {xs(api.MaxText), 20008}} {
		fits := newDisk(t, xs(api.MaxBytes-c.need))
		if err := tape.Append(fits, c.s); err != nil || len(fits.Bytes()) != api.MaxBytes || !fits.Power() {
			t.Error(c.need, err, len(fits.Bytes()))
		}
		wantNoAppend(t, fits, "", api.ErrFull)
		for _, less := range []int{1, 2, 3, c.need} {
			d := newDisk(t, xs(api.MaxBytes-c.need+less))
			wantNoAppend(t, d, c.s, api.ErrFull)
		}
	}
	d := newDisk(t, xs(api.MaxBytes-9))
	wantNoAppend(t, d, xs(6), api.ErrFull)
	wantAppend(t, d, "y", "1:y\n.") // what was refused took no room
	wantNoAppend(t, d, "y", api.ErrFull)
	wantAppend(t, d, "", "0:\n.")
}

// P120: no room is told ahead of no power, and what is refused for it uses none up.
func TestAppendFullOff(t *testing.T) {
	d := newDisk(t, xs(api.MaxBytes-6))
	for _, n := range []int{0, 4} {
		wantCut(t, d, n, nil)
		wantNoAppend(t, d, "abc", api.ErrFull)
		wantNoAppend(t, d, xs(api.MaxText+1), api.ErrBound)
	}
	wantAppend(t, d, "", "0:\n.")
	d = newDisk(t, xs(api.MaxBytes-6))
	wantCut(t, d, 1, nil)
	wantFails(t, d, "y", "1")
	wantNoAppend(t, d, "yy", api.ErrFull)
	wantNoAppend(t, d, "y", api.ErrOff)
	d.On()
	wantNoAppend(t, d, "yy", api.ErrFull)
	wantAppend(t, d, "y", "1:y\n.")
}

// P120: there is power until a byte more than n would be written, and then none until it is on.
func TestCut(t *testing.T) {
	const record = "10:abcdefghij\n."
	for n := range len(record) {
		d := newDisk(t, "")
		wantCut(t, d, n, nil)
		wantFails(t, d, "abcdefghij", record[:n])
		for range 3 {
			wantNoAppend(t, d, "abcdefghij", api.ErrOff)
			wantNoAppend(t, d, "", api.ErrOff)
			wantCut(t, d, 100, api.ErrOff)
			wantCut(t, d, 0, api.ErrOff)
			wantCut(t, d, -1, api.ErrBound)
		}
		d.On()
		wantDisk(t, d, record[:n], true) // it brings no byte, and takes none
		wantAppend(t, d, "y", "1:y\n.")
	}
	d := newDisk(t, "")
	wantCut(t, d, len(record), nil)
	wantAppend(t, d, "abcdefghij", record) // just n bytes are whole
	wantFails(t, d, "", "")
}

// P120: bytes of several records are counted together, from the cut on.
func TestCutLater(t *testing.T) {
	d := newDisk(t, "abc")
	wantAppend(t, d, "y", "1:y\n.")
	wantCut(t, d, 16, nil)
	wantAppend(t, d, "", "0:\n.")
	wantAppend(t, d, "y", "1:y\n.")
	wantFails(t, d, xs(5), "5:xxxxx")
	d.On()
	wantCut(t, d, 9, nil)
	wantAppend(t, d, "y", "1:y\n.")
	wantAppend(t, d, "", "0:\n.")
	wantFails(t, d, "z", "")
}

// P120: a number below 0 cuts nothing; a great one lasts.
func TestCutBound(t *testing.T) {
	d := newDisk(t, "")
	for _, n := range []int{-1, -2, math.MinInt} {
		wantCut(t, d, n, api.ErrBound)
	}
	wantAppend(t, d, xs(api.MaxText), "20000:"+xs(api.MaxText)+"\n.")
	wantCut(t, d, 7, nil)
	wantCut(t, d, -1, api.ErrBound)
	wantAppend(t, d, "y", "1:y\n.")
	wantFails(t, d, "y", "1:")
	d.On()
	for _, n := range []int{math.MaxInt, math.MaxInt - 1, api.MaxBytes, 1 << 32} {
		wantCut(t, d, n, nil)
		wantAppend(t, d, "y", "1:y\n.")
	}
}

// P120: each cut counts from itself on, also while another one waits.
func TestCutAgain(t *testing.T) {
	for _, c := range [][2]int{{0, 5}, {5, 5}, {100, 5}, {4, 6}, {math.MaxInt, 5}, {0, 9}} {
		d := newDisk(t, "")
		wantCut(t, d, c[0], nil)
		wantCut(t, d, c[1], nil)
		wantAppend(t, d, "y", "1:y\n.")
		wantFails(t, d, "zz", "2:zz\n."[:c[1]-5])
	}
	d := newDisk(t, "")
	wantCut(t, d, 7, nil)
	wantAppend(t, d, "y", "1:y\n.")
	wantCut(t, d, 7, nil)
	wantAppend(t, d, "y", "1:y\n.")
	wantFails(t, d, "y", "1:")
}

// P120: what is on has power, and no cut waits; on again is on.
func TestOn(t *testing.T) {
	for n := range 12 {
		d := newDisk(t, "")
		d.On()
		wantCut(t, d, n, nil)
		d.On()
		wantDisk(t, d, "", true)
		wantAppend(t, d, "y", "1:y\n.")
		wantAppend(t, d, "abcdef", "6:abcdef\n.")
		wantCut(t, d, 2, nil)
		wantFails(t, d, "y", "1:")
		d.On()
		d.On()
		wantAppend(t, d, "abcdef", "6:abcdef\n.")
		wantAppend(t, d, "y", "1:y\n.")
	}
}

// P120, P121: no disk is none.
func TestNilDisk(t *testing.T) {
	for _, s := range []string{"", "x", xs(api.MaxText), xs(api.MaxText + 1), xs(api.MaxBytes + 1)} {
		if err := tape.Append(nil, s); err != api.ErrShape {
			t.Errorf("%d bytes: %v", len(s), err)
		}
	}
	if l, err := tape.Recover(nil); len(l) != 0 || err != api.ErrShape {
		t.Error(l, err)
	}
}

// P1: a disk that no call gave is empty, and has power.
func TestZeroDisk(t *testing.T) {
	d := &tape.Disk{}
	if l, err := tape.Recover(d); len(l) != 0 || err != nil {
		t.Error(l, err)
	}
	wantDisk(t, d, "", true)
	wantAppend(t, d, "y", "1:y\n.")
}

// P4: what was told stays as it was, and disks of the same bytes do not know of each other.
func TestDisksApart(t *testing.T) {
	const b = "1:y\n.2:zz"
	d, e := newDisk(t, b), newDisk(t, b)
	told := d.Bytes()
	l := wantRecover(t, d, []string{"y"}, "1:y\n.")
	wantAppend(t, d, "abc", "3:abc\n.")
	wantCut(t, d, 0, nil)
	wantFails(t, d, "abc", "")
	wantDisk(t, e, b, true)
	wantAppend(t, e, "w", "1:w\n.")
	wantDisk(t, d, "1:y\n.3:abc\n.", false)
	l[0] = "w"
	wantRecover(t, d, []string{"y", "abc"}, "1:y\n.3:abc\n.")
	if told != b {
		t.Errorf("%q has changed", told)
	}
}

// P2: each disk is its own, also side by side.
func TestSideBySide(t *testing.T) {
	var all sync.WaitGroup
	for w := range 8 {
		all.Go(func() {
			d, _ := tape.NewDisk("")
			var want []string
			for k := range 300 {
				d.Cut(w + k%40)
				if s := xs(k % 20); tape.Append(d, s) == nil {
					want = append(want, s)
				}
				if l, err := tape.Recover(d); err != nil || !slices.Equal(l, want) {
					t.Error(w, k, len(l), len(want), err)
				}
			}
		})
	}
	all.Wait()
}
