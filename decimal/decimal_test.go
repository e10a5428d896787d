package decimal_test

import (
	"math"
	"strconv"
	"strings"
	"testing"

	"packhorse/decimal"
)

func wantRead(t *testing.T, digits string, most, want int) {
	t.Helper()
	if n, is := decimal.Read(digits, most); n != want || !is {
		t.Errorf("%q of %d: %d, %t, want %d", digits, most, n, is, want)
	}
}

func wantNoRead(t *testing.T, digits string, most int) {
	t.Helper()
	if n, is := decimal.Read(digits, most); n != 0 || is {
		t.Errorf("%.80q of %d: %d, %t, want none", digits, most, n, is)
	}
}

// Whatever number is written is read, up to as many digits as there may be.
func TestRead(t *testing.T) {
	for _, n := range []int{0, 1, 9, 10, 11, 99, 100, 4000, 999999, 1000000, math.MaxUint32, 9999999999, math.MaxInt} {
		s := strconv.Itoa(n)
		for _, most := range []int{len(s), len(s) + 1, 100} {
			wantRead(t, s, most, n)
		}
		for _, most := range []int{len(s) - 1, 0, -1, math.MinInt} {
			wantNoRead(t, s, most)
		}
	}
}

func TestReadWrong(t *testing.T) {
	for _, s := range []string{
		"", "-", "+", "-1", "+1", "-0", "00", "01", "001", "-01", " 1", "1 ", "1\n", "\t1", "1\x00", "1.", "1.0", ".1", "1e3", "1_0", "0x1", "0b1", "0o1", "x", "1x", "x1", "١", "\xff",
		"9223372036854775808", "18446744073709551617", strings.Repeat("9", 1000), strings.Repeat("0", 1000),
	} {
		for _, most := range []int{len(s) - 1, len(s), len(s) + 1, math.MaxInt} {
			wantNoRead(t, s, most)
		}
	}
}
