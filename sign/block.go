package sign

import (
	"packhorse/api"
	"packhorse/sum"
	"packhorse/weak"
)

const (
	minSize = 4  // the least that Size answers; a caller may take less
	noBlock = -1 // the place of what is wrong, if it is in none of the blocks
)

// blockOf the bytes of one block.
func blockOf(s string) api.Block {
	return api.Block{N: len(s), Weak: weak.Sum(s), Strong: sum.Sum(s)}
}

// firstWrong is the place of the first thing that no signature has, and why. A caller that tells it bare leaves the place out.
func firstWrong(l []api.Block, size int) (int, error) {
	if !isSize(size) {
		return noBlock, api.ErrBound
	}
	bytes := 0
	for i, b := range l {
		if !hasBytes(b, size, i == len(l)-1) || !hasSum(b) {
			return i, api.ErrBound
		}
		bytes += b.N
		if bytes > api.MaxFile {
			return i, api.ErrFull
		}
	}
	return noBlock, nil
}

func isSize(n int) bool { return n >= 1 && n <= api.MaxBlock }

// hasBytes: only the last block of a file may be shorter than the others.
func hasBytes(b api.Block, size int, last bool) bool {
	return b.N == size || last && b.N >= 1 && b.N < size
}

func hasSum(b api.Block) bool { return b.Weak >= 0 && b.Weak < api.Mod*api.Mod }
