package tree

import (
	"bytes"
	"math/bits"

	"yearbook/api"
	"yearbook/sha"
)

// Push answers the edge e with b as a leaf more.
func Push(e api.Edge, b []byte) (api.Edge, api.Errno) {
	if e.Size >= api.MaxLeaves || !isFormed(e) {
		return api.Edge{}, api.ErrForm
	}
	if len(b) > api.MaxLeaf {
		return api.Edge{}, api.ErrMuch
	}
	// Each one at the low end of Size stands for a part that has as many
	// leaves as the last one has by then.
	last, ahead := Leaf(b), len(e.Parts)
	for size := e.Size; size%2 == 1; size /= 2 {
		ahead--
		last = Node(e.Parts[ahead], last)
	}
	return api.Edge{Size: e.Size + 1, Parts: append(copies(e.Parts[:ahead]), last)}, api.OK
}

// Top answers the root of the leaves whose edge e is.
func Top(e api.Edge) ([]byte, api.Errno) {
	if !isFormed(e) {
		return nil, api.ErrForm
	}
	if e.Size == 0 {
		return sha.Sum(nil), api.OK
	}
	last := len(e.Parts) - 1
	top := bytes.Clone(e.Parts[last])
	for i := last - 1; i >= 0; i-- {
		top = Node(e.Parts[i], top)
	}
	return top, api.OK
}

// isFormed tells whether e is written as an edge of at most MaxLeaves leaves.
func isFormed(e api.Edge) bool {
	return e.Size >= 0 && e.Size <= api.MaxLeaves &&
		len(e.Parts) == bits.OnesCount(uint(e.Size)) && areDigests(e.Parts)
}

// copies answers l in new memory, so that nothing of an argument is answered.
func copies(l [][]byte) [][]byte {
	out := make([][]byte, 0, len(l)+1)
	for _, b := range l {
		out = append(out, bytes.Clone(b))
	}
	return out
}
