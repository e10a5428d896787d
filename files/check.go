package files

import "packhorse/api"

// nowhere is the place of what is wrong, if it is at none of the files.
const nowhere = -1

// entryAt answers the name of the i-th file, and how many bytes it has: all
// that is asked of files, and of the lines of a list, alike.
type entryAt func(i int) (name string, bytes int)

func filesAt(l []api.File) entryAt {
	return func(i int) (string, int) { return l[i].Name, len(l[i].Data) }
}

func linesAt(l []Line) entryAt {
	return func(i int) (string, int) { return l[i].Name, l[i].N }
}

// firstWrong of n files is the place of the first one that is wrong, and why.
// A caller that tells it bare leaves the place out.
func firstWrong(n int, entry entryAt) (int, error) {
	if n > api.MaxFiles {
		return nowhere, api.ErrFull
	}
	last := "" // every name rises above it
	for i := range n {
		name, bytes := entry(i)
		if err := wrong(last, name, bytes); err != nil {
			return i, err
		}
		last = name
	}
	return nowhere, nil
}

func wrong(last, name string, bytes int) error {
	if !Name(name) {
		return api.ErrName
	}
	if bytes < 0 || bytes > api.MaxFile {
		return api.ErrBound
	}
	if name <= last {
		return api.ErrOrder
	}
	return nil
}

// placed is an error with its place, if it has one.
func placed(at int, err error) error {
	if err == nil || at == nowhere {
		return err
	}
	return &api.Fault{At: at, Err: err}
}

func checkLines(l []Line) error { return placed(firstWrong(len(l), linesAt(l))) }

func isNameByte(b byte) bool {
	return b >= 'a' && b <= 'z' || b >= '0' && b <= '9' || b == '.' || b == '-'
}
