package xfer

import (
	"slices"

	"packhorse/api"
	"packhorse/delta"
	"packhorse/files"
	"packhorse/frame"
	"packhorse/num"
	"packhorse/sign"
)

// Kinds of frames: what is asked, and its answer is of the same kind.
const (
	kindList  = 'l' // nothing; files.Text of the source's files
	kindDelta = 'd' // a name and the signature of the destination's file; the delta to it
)

// source only answers: it knows nothing of what it was asked before, so that nothing is lost when the destination begins anew.
type source struct {
	files []api.File
	send  func(frame.Frame)
}

func newSource(l []api.File, send func(frame.Frame)) *source {
	return &source{files: slices.Clone(l), send: send}
}

// take a frame: its answer has its kind, epoch and number. What asks for nothing that there is has none.
func (s *source) take(f frame.Frame) {
	answer := s.delta
	if f.Kind == kindList {
		answer = s.list
	}
	if data, err := answer(f.Data); err == nil {
		f.Data = data
		s.send(f)
	}
}

// list of all files.
func (s *source) list(string) (string, error) {
	l, err := files.List(s.files)
	if err != nil {
		return "", err
	}
	return files.Text(l)
}

// delta of a file to a signature.
func (s *source) delta(asked string) (string, error) {
	name, signature, err := num.GetText(asked)
	if err != nil {
		return "", err
	}
	blocks, size, err := sign.Read(signature)
	if err != nil {
		return "", err
	}
	data, is := files.Get(s.files, name)
	if !is {
		return "", api.ErrNone
	}
	ops, err := delta.Make(blocks, size, data)
	if err != nil {
		return "", err
	}
	return delta.Text(ops)
}
