package tree

import (
	"fmt"
	"math"
	"math/bits"
	"slices"
	"testing"

	"yearbook/api"
)

func wantEdge(t *testing.T, what string, got, asked api.Edge) {
	t.Helper()
	if got.Size != asked.Size {
		t.Errorf("%s: size %d comes, not %d", what, got.Size, asked.Size)
	}
	wantList(t, what, got.Parts, asked.Parts)
}

func wantErrno(t *testing.T, what string, got, asked api.Errno) {
	t.Helper()
	if got != asked {
		t.Errorf("%s: errno %d comes, not %d", what, got, asked)
	}
}

// B4: leaf by leaf, up to as many as there may be, an edge has the root.
func TestEdgeLeafByLeaf(t *testing.T) {
	l := leaves(api.MaxLeaves)
	var e api.Edge
	for n := 0; ; n++ {
		what := fmt.Sprintf("edge of %d", n)
		wantEdge(t, what, e, api.Edge{Size: n, Parts: trueParts(l[:n])})
		top, err := Top(e)
		want(t, what, top, trueRoot(l[:n]))
		wantErrno(t, what, err, api.OK)
		if n == len(l) {
			break
		}
		e, err = Push(e, l[n])
		wantErrno(t, what, err, api.OK)
	}
	more, err := Push(e, nil)
	wantErrno(t, "one too many", err, api.ErrForm)
	wantEdge(t, "one too many", more, api.Edge{})
}

// pushed is what comes of a leaf more, told by adding one in binary.
func pushed(e api.Edge, b []byte) api.Edge {
	parts := slices.Concat(e.Parts, [][]byte{trueLeaf(b)})
	for bits.OnesCount(uint(e.Size+1)) < len(parts) {
		n := len(parts)
		parts = append(slices.Clone(parts[:n-2]), trueNode(parts[n-2], parts[n-1]))
	}
	return api.Edge{Size: e.Size + 1, Parts: parts}
}

// B4: an edge may be of any digests, whether or not there are such leaves.
func TestEdgeOfAnyDigests(t *testing.T) {
	for size := range api.MaxLeaves + 1 {
		e := api.Edge{Size: size, Parts: digests(bits.OnesCount(uint(size)))}
		asked := trueRoot(nil)
		for i, d := range slices.Backward(e.Parts) {
			if i == len(e.Parts)-1 {
				asked = d
			} else {
				asked = trueNode(d, asked)
			}
		}
		top, err := Top(e)
		want(t, "top", top, asked)
		wantErrno(t, "top", err, api.OK)
		if size == api.MaxLeaves {
			break
		}
		for _, b := range [][]byte{nil, leaf(size), make([]byte, api.MaxLeaf)} {
			got, err := Push(e, b)
			wantEdge(t, "push", got, pushed(e, b))
			wantErrno(t, "push", err, api.OK)
		}
	}
}

// misformed answers edges that are none.
func misformed() []api.Edge {
	var out []api.Edge
	for _, size := range []int{math.MinInt, -128, -2, -1, 101, 127, 128, 1 << 40, math.MaxInt} {
		for count := range 65 {
			out = append(out, api.Edge{Size: size, Parts: digests(count)})
		}
	}
	for size := range api.MaxLeaves + 1 {
		count := bits.OnesCount(uint(size))
		for _, other := range []int{0, count - 1, count + 1, count + 2, size, 64} {
			if other >= 0 && other != count {
				out = append(out, api.Edge{Size: size, Parts: digests(other)})
			}
		}
		for i := range count {
			for _, wrong := range [][]byte{nil, {}, {1}, make([]byte, 31), make([]byte, 33), make([]byte, 64)} {
				parts := digests(count)
				parts[i] = wrong
				out = append(out, api.Edge{Size: size, Parts: parts})
			}
		}
	}
	return out
}

// B4.
func TestMisformedEdges(t *testing.T) {
	for _, e := range misformed() {
		what := fmt.Sprintf("size %d, parts %x", e.Size, e.Parts)
		top, err := Top(e)
		wantErrno(t, what, err, api.ErrForm)
		want(t, what, top, nil)
		for _, b := range [][]byte{nil, {1}, make([]byte, api.MaxLeaf+1)} {
			got, err := Push(e, b)
			wantErrno(t, what, err, api.ErrForm)
			wantEdge(t, what, got, api.Edge{})
		}
	}
}

// B4: a leaf that is too long, and an edge that is full, whatever the leaf.
func TestPushWithinItsLimits(t *testing.T) {
	for size := range api.MaxLeaves {
		e := api.Edge{Size: size, Parts: digests(bits.OnesCount(uint(size)))}
		for _, length := range []int{api.MaxLeaf + 1, 255, 256, 100000} {
			got, err := Push(e, make([]byte, length))
			wantErrno(t, "a long leaf", err, api.ErrMuch)
			wantEdge(t, "a long leaf", got, api.Edge{})
		}
	}
	full := api.Edge{Size: api.MaxLeaves, Parts: digests(bits.OnesCount(api.MaxLeaves))}
	for _, b := range [][]byte{nil, make([]byte, api.MaxLeaf), make([]byte, api.MaxLeaf+1)} {
		got, err := Push(full, b)
		wantErrno(t, "a full edge", err, api.ErrForm)
		wantEdge(t, "a full edge", got, api.Edge{})
	}
}
