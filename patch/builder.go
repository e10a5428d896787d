package patch

import (
	"strings"

	"packhorse/api"
	"packhorse/delta"
)

// builder of a file, of blocks of an old one and of bytes that are new.
type builder struct {
	old  string
	size int
	made strings.Builder
}

// add what an op brings. That it is an op at all was asked ahead.
func (b *builder) add(op api.Op) error {
	piece := op.Data
	if op.Kind == delta.KindCopy {
		if op.At+op.N > b.blocks() {
			return api.ErrNone
		}
		piece = b.copied(op.At, op.N)
	}
	// Asked ahead of the writing: a short list of ops could make far more than a file.
	if b.made.Len()+len(piece) > api.MaxFile {
		return api.ErrFull
	}
	b.made.WriteString(piece)
	return nil
}

// blocks that the old file has, with one that is shorter at its end.
func (b *builder) blocks() int { return (len(b.old) + b.size - 1) / b.size }

// copied are the bytes of n blocks from block at on, all of which there are.
func (b *builder) copied(at, n int) string {
	return b.old[at*b.size : min((at+n)*b.size, len(b.old))]
}
