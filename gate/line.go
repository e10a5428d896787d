package gate

import (
	"strconv"
	"strings"

	"packhorse/api"
	"packhorse/decimal"
	"packhorse/files"
)

// maxDigits of a number in a line.
const maxDigits = 10

func lineOf(token string, epoch int) string {
	return token + " " + strconv.Itoa(epoch) + "\n"
}

// readLine of a text, whose token rises above another one.
func readLine(line, above string) (string, int, error) {
	body, ended := strings.CutSuffix(line, "\n")
	token, digits, _ := strings.Cut(body, " ") // no blank: no digits, which are no number
	epoch, is := decimal.Read(digits, maxDigits)
	switch {
	case !ended || !is:
		return "", 0, api.ErrText
	case !files.Name(token):
		return "", 0, api.ErrName
	case !isEpoch(epoch):
		return "", 0, api.ErrBound
	case token <= above:
		return "", 0, api.ErrOrder
	}
	return token, epoch, nil
}
