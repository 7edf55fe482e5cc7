package tree

import (
	"fmt"
	"math"
	"testing"

	"yearbook/api"
)

// upBy puts made together with each of p, on the side that left tells.
func upBy(t *testing.T, made []byte, p [][]byte, left []bool) []byte {
	t.Helper()
	if len(left) != len(p) {
		t.Fatalf("%d sides of %d digests", len(left), len(p))
	}
	for k, d := range p {
		if left[k] {
			made = trueNode(d, made)
		} else {
			made = trueNode(made, d)
		}
	}
	return made
}

// The sides of a path and of a proof lead to the root.
func TestSidesLeadToTheRoot(t *testing.T) {
	for n := 1; n <= api.MaxLeaves; n++ {
		l := leaves(n)
		root := trueRoot(l)
		for i := range n {
			what := fmt.Sprintf("%d of %d", i, n)
			want(t, "path of "+what, upBy(t, trueLeaf(l[i]), truePath(l, i), PathSides(n, i)), root)
			m := i + 1
			from, p, left := trueRoot(l[:m]), trueProof(l, m, true), ProofSides(n, m)
			if len(p) > len(left) {
				from, p = p[0], p[1:]
			}
			want(t, "proof behind "+what, upBy(t, from, p, left), root)
		}
	}
}

// A proof has a digest without a side where m is neither all nor a power of
// two, and only there.
func TestProofSidesOfWholeParts(t *testing.T) {
	for n := 1; n <= api.MaxLeaves; n++ {
		for m := 1; m <= n; m++ {
			whole := m == n || m&(m-1) == 0
			got := len(trueProof(leaves(n), m, true)) - len(ProofSides(n, m))
			if whole && got != 0 || !whole && got != 1 {
				t.Errorf("proof of %d in %d: %d digests without a side", m, n, got)
			}
		}
	}
}

func TestSidesOfNothing(t *testing.T) {
	for _, n := range []int{math.MinInt, -1, 0, 1, 7, 100} {
		for _, i := range []int{math.MinInt, -1, max(n, 0), math.MaxInt} {
			if len(PathSides(n, i)) != 0 {
				t.Errorf("sides of leaf %d of %d", i, n)
			}
		}
		for _, m := range []int{math.MinInt, -1, 0, max(n, 0) + 1, math.MaxInt} {
			if len(ProofSides(n, m)) != 0 {
				t.Errorf("sides of the proof of %d in %d", m, n)
			}
		}
	}
	for _, i := range []int{0, 1, math.MaxInt - 1} {
		if len(PathSides(math.MaxInt, i)) > 63 || len(ProofSides(math.MaxInt, i+1)) > 63 {
			t.Errorf("too many sides of %d", i)
		}
	}
}
