// Package decimal reads the whole numbers of texts.
package decimal

import "strconv"

// Read a number of just digits, at most so many of them, without needless zeros.
func Read(digits string, most int) (int, bool) {
	// The length ahead of all: what is too long need not be gone through.
	if len(digits) > most {
		return 0, false
	}
	// A sign, or a zero too many, would not be written again.
	n, err := strconv.Atoi(digits)
	if err != nil || n < 0 || strconv.Itoa(n) != digits {
		return 0, false
	}
	return n, true
}
