package tape

import (
	"strconv"
	"strings"

	"packhorse/api"
)

// record of a text. Its length stands ahead, so that the text may have any bytes, also those of an end.
func record(s string) string { return strconv.Itoa(len(s)) + ":" + s + "\n." }

// first text of a tape: is there one?
func first(b string) (string, bool) {
	digits, behind, _ := strings.Cut(b, ":") // no colon: a record is not what b begins with, whatever the digits are
	n, err := strconv.Atoi(digits)
	if err != nil || n < 0 || n > min(len(behind), api.MaxText) {
		return "", false
	}
	s := behind[:n]
	// Held against what is appended, a length that is written in another way (a sign, needless zeros) is none.
	if !strings.HasPrefix(b, record(s)) {
		return "", false
	}
	return s, true
}
