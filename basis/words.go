package basis

import (
	"math"
	"strconv"
	"strings"

	"packhorse/api"
	"packhorse/decimal"
	"packhorse/files"
)

// maxDigits of a number in a text.
const maxDigits = 10

// words of a text: they may still be none of a mark's.
type words struct {
	name   string
	n, sum int
}

func readWords(s string) (words, bool) {
	l := strings.SplitN(s, " ", 4) // a fourth one, whatever it is, is one too many
	if len(l) != 3 {
		return words{}, false
	}
	n, isN := decimal.Read(l[1], maxDigits)
	sum, isSum := decimal.Read(l[2], maxDigits)
	return words{name: l[0], n: n, sum: sum}, isN && isSum
}

func (w words) mark() (Mark, error) {
	if err := check(w.name, w.n); err != nil {
		return Mark{}, err
	}
	if w.sum > math.MaxUint32 {
		return Mark{}, api.ErrBound
	}
	return Mark{Name: w.name, N: w.n, Sum: uint32(w.sum)}, nil
}

func wordsOf(m Mark) string {
	return m.Name + " " + strconv.Itoa(m.N) + " " + strconv.FormatUint(uint64(m.Sum), 10)
}

// check a name, and how many bytes of a file.
func check(name string, n int) error {
	if !files.Name(name) {
		return api.ErrName
	}
	if n < 0 || n > api.MaxFile {
		return api.ErrBound
	}
	return nil
}
