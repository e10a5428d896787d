package delta

import (
	"packhorse/api"
	"packhorse/sign"
	"packhorse/weak"
)

// made from the front of s on: what lies ahead of a block that is found is new.
func made(l []api.Block, size int, s string) []api.Op {
	var ops []api.Op
	fresh, copied := growing(&ops)
	find := finding(l, size, s)
	told := 0 // where what the ops hold already ends
	for at := 0; at < len(s); {
		k := find(at)
		if k < 0 {
			at++
			continue
		}
		fresh(s[told:at])
		copied(k)
		at = min(at+size, len(s))
		told = at
	}
	fresh(s[told:])
	return ops
}

// growing answers two calls that grow the ops that the pointer leads to: by
// bytes that are new, and by a block that is copied.
func growing(ops *[]api.Op) (fresh func(string), copied func(int)) {
	fresh = func(s string) {
		if s != "" {
			*ops = append(*ops, api.Op{Kind: KindData, Data: s})
		}
	}
	copied = func(k int) {
		if n := len(*ops); n > 0 && copiesUpTo((*ops)[n-1], k) {
			(*ops)[n-1].N++
			return
		}
		*ops = append(*ops, api.Op{Kind: KindCopy, At: k, N: 1})
	}
	return fresh, copied
}

// copiesUpTo: block k is the one behind the last that op copies.
func copiesUpTo(op api.Op, k int) bool { return op.Kind == KindCopy && op.At+op.N == k }

// finding answers a call that finds the block with which s goes on at a place
// (-1: none). Both sums of the bytes anew at each place would be slow: where
// no block has the weak sum that is rolled along, there is none to be found.
func finding(l []api.Block, size int, s string) func(int) int {
	rolled, known := weak.All(s, size), weakSums(l)
	return func(at int) int {
		if at < len(rolled) {
			if _, ok := known[rolled[at]]; !ok {
				return -1
			}
		}
		return sign.Find(l, s[at:min(at+size, len(s))])
	}
}

func weakSums(l []api.Block) map[int]struct{} {
	known := make(map[int]struct{}, len(l))
	for _, b := range l {
		known[b.Weak] = struct{}{}
	}
	return known
}
