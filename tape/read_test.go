package tape_test

import (
	"fmt"
	"slices"
	"strings"
	"testing"

	"packhorse/api"
	"packhorse/tape"
)

func wantRead(t *testing.T, b string, want []string, bytes int) {
	t.Helper()
	l, n := tape.Read(b)
	if !slices.Equal(l, want) || n != bytes {
		t.Errorf("read %.60q: %d records, %d bytes, want %d, %d: %.80q", b, len(l), n, len(want), bytes, l)
	}
}

// wantRecover: these records, power, and no bytes behind them.
func wantRecover(t *testing.T, d *tape.Disk, want []string, bytes string) []string {
	t.Helper()
	l, err := tape.Recover(d)
	if err != nil || !slices.Equal(l, want) {
		t.Errorf("recovered %.80q, %v, want %.80q", l, err, want)
	}
	wantDisk(t, d, bytes, true)
	return l
}

// recordOf is what P120 says of a record.
func recordOf(s string) string { return fmt.Sprintf("%d:%s\n.", len(s), s) }

func recordsOf(l []string) string {
	b := ""
	for _, s := range l {
		b += recordOf(s)
	}
	return b
}

// goodTexts at the edges of a record.
func goodTexts() []string {
	return []string{"", "y", "a\n.b", "\n.", ":", "0:\n.", "1:y\n.", "12", "\x00\xff\r", "ä", xs(9), xs(10), xs(99), xs(100), xs(999), xs(1000), xs(9999), xs(10000), xs(20000), ""}
}

// wrongRecords are none, whatever stands behind them: digits, lengths, ends.
func wrongRecords() []string {
	return []string{
		"x", ":", ":\n.", "\n.", ".", " 1:y\n.", "1 :y\n.", "1: y\n.", "1y\n.", "1;y\n.", "y:y\n.", "1x:y\n.", "0x1:y\n.", "1_0:" + xs(10) + "\n.", "1.0:y\n.", "1e0:y\n.", "١:y\n.", "\xff:y\n.", "\x00:\n.",
		"00:\n.", "01:y\n.", "010:" + xs(10) + "\n.", "0000000000000000000000001:y\n.", "-0:\n.", "-1:\n.", "-1:y\n.", "+0:\n.", "+1:y\n.", "-:\n.",
		"0:y\n.", "0:.\n", "0:\n\n", "0: \n.", "0:\r\n.", "1:yy\n.", "1:\n.", "2:y\n.", "1:y\n", "1:y.", "1:y\n\n.", "1:y\n:", "1:y\r\n.", "1:y.\n", "1:y\x00.", "3:y\n.",
		"20001:" + xs(20001) + "\n.", "20002:" + xs(20002) + "\n.", "100000:" + xs(100000) + "\n.", "9223372036854775807:y\n.", "-9223372036854775808:y\n.", "9223372036854775806:\n.", "18446744073709551617:y\n.", "4294967297:y\n.", strings.Repeat("9", 100000) + ":y\n.",
	}
}

// P121: what was appended is read, and takes as many bytes as it has.
func TestRead(t *testing.T) {
	wantRead(t, "", nil, 0)
	l := goodTexts()
	for n := range len(l) + 1 {
		b := recordsOf(l[:n])
		wantRead(t, b, l[:n], len(b))
		wantRead(t, recordsOf(l[n:]), l[n:], len(recordsOf(l[n:])))
	}
}

// P121: up to the first that is none; what stands behind it is not read.
func TestReadWrong(t *testing.T) {
	l := goodTexts()
	for _, wrong := range wrongRecords() {
		for _, n := range []int{0, 1, 2, len(l)} {
			b := recordsOf(l[:n])
			for _, behind := range []string{"", "z", "1:y\n."} {
				wantRead(t, b+wrong+behind, l[:n], len(b))
			}
		}
	}
}

// P121: a piece of a record is none.
func TestReadPieces(t *testing.T) {
	for _, s := range []string{"", "y", "\n.", "1:y\n.", "a\n.b", xs(10), xs(300)} {
		ahead, b := "2:\n.\n.", recordOf(s)
		for n := range len(b) {
			wantRead(t, b[:n], nil, 0)
			wantRead(t, ahead+b[:n], []string{"\n."}, len(ahead))
		}
		wantRead(t, ahead+b+"7:", []string{"\n.", s}, len(ahead+b))
	}
}

// P121: more bytes than a disk has are read all the same, and soon.
func TestReadMuch(t *testing.T) {
	const n = 1 << 19
	l, bytes := tape.Read(strings.Repeat("0:\n.", n) + "0:\n")
	if len(l) != n || bytes != 4*n || strings.Join(l, "") != "" {
		t.Error(len(l), bytes)
	}
	for _, wrong := range []string{"1", "0", "9", ":", "\n", ".", "x", "-"} {
		wantRead(t, "0:\n."+strings.Repeat(wrong, 1<<21), []string{""}, 4)
	}
}

// P121: what is behind the records goes; what they are stays.
func TestRecover(t *testing.T) {
	l := goodTexts()
	for n := range len(l) + 1 {
		b := recordsOf(l[:n])
		for _, behind := range []string{"", "x", "1:y\n", "1:yy\n.1:y\n.", "20001:", "\n."} {
			d := newDisk(t, b+behind)
			for range 3 {
				wantRecover(t, d, l[:n], b)
			}
			wantAppend(t, d, "more", "4:more\n.")
			wantRecover(t, d, append(l[:n:n], "more"), b+"4:more\n.")
		}
	}
}

// P121: it makes room, up to all of it.
func TestRecoverFull(t *testing.T) {
	d := newDisk(t, xs(api.MaxBytes))
	wantNoAppend(t, d, "", api.ErrFull)
	wantRecover(t, d, nil, "")
	wantAppend(t, d, "y", "1:y\n.")
	full := strings.Repeat("0:\n.", api.MaxBytes/4)
	d = newDisk(t, full)
	if l, err := tape.Recover(d); len(l) != api.MaxBytes/4 || err != nil {
		t.Error(len(l), err)
	}
	wantDisk(t, d, full, true)
	wantNoAppend(t, d, "", api.ErrFull)
}

// P121, P120: power is on behind it, and no cut waits.
func TestRecoverOn(t *testing.T) {
	for n := range 9 {
		d := newDisk(t, "1:y\n.")
		wantCut(t, d, n, nil)
		wantRecover(t, d, []string{"y"}, "1:y\n.") // while a cut waits
		wantAppend(t, d, "abcdef", "6:abcdef\n.")
		wantCut(t, d, n, nil)
		wantFails(t, d, "abcdef", "6:abcdef\n."[:n])
		wantRecover(t, d, []string{"y", "abcdef"}, "1:y\n.6:abcdef\n.") // while power is off
		wantAppend(t, d, "abcdef", "6:abcdef\n.")
	}
}
