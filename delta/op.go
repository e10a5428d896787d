package delta

import "packhorse/api"

// The kinds of an op.
const (
	KindCopy = "copy"
	KindData = "data"
)

// firstWrong is the place of the first op that is none, and why. A caller
// that tells it bare leaves the place out.
func firstWrong(ops []api.Op) (int, error) {
	for i, op := range ops {
		if err := wrong(op); err != nil {
			return i, err
		}
	}
	return 0, nil
}

func wrong(op api.Op) error {
	switch op.Kind {
	case KindCopy:
		return wrongCopy(op)
	case KindData:
		return wrongData(op)
	}
	return api.ErrKind
}

func wrongCopy(op api.Op) error {
	if op.Data != "" {
		return api.ErrShape
	}
	if op.At < 0 || op.At > api.MaxFile || !isMany(op.N) {
		return api.ErrBound
	}
	return nil
}

func wrongData(op api.Op) error {
	if op.At != 0 || op.N != 0 {
		return api.ErrShape
	}
	if !isMany(len(op.Data)) {
		return api.ErrBound
	}
	return nil
}

// isMany: an op of no blocks or no bytes would do nothing.
func isMany(n int) bool { return n >= 1 && n <= api.MaxFile }
