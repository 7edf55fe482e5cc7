package tree

import "math/bits"

// part is the leaves of a tree from first on, below end.
type part struct{ first, end int }

// split answers the two parts of p, which has two leaves at least: the left
// one has the greatest power of two that is below how many p has.
func (p part) split() (left, right part) {
	k := 1 << (bits.Len(uint(p.end-p.first-1)) - 1)
	return part{p.first, p.first + k}, part{p.first + k, p.end}
}

// of answers those of the leaves l that are in p.
func (p part) of(l [][]byte) [][]byte {
	return l[p.first:p.end]
}

// walk goes to the parts whose roots a path or a proof has, in its order, and
// calls visit with each. Who makes a path or a proof and who checks it take
// the same walk, so that the two can't differ.
type walk func(visit func(part))

// pathOf answers the walk of leaf i's path among size leaves.
func pathOf(size, i int) walk {
	return func(visit func(part)) {
		walkPath(part{0, size}, i, visit)
	}
}

// proofOf answers the walk of the proof of the first m of size leaves, whole.
func proofOf(size, m int) walk {
	return func(visit func(part)) {
		walkProof(part{0, size}, m, true, visit)
	}
}

// walkPath counts i from the beginning of the whole tree, not of all.
func walkPath(all part, i int, visit func(part)) {
	if all.end-all.first < 2 {
		return
	}
	left, right := all.split()
	if i < left.end {
		walkPath(left, i, visit)
		visit(right)
		return
	}
	walkPath(right, i, visit)
	visit(left)
}

// walkProof counts m from the beginning of the whole tree, not of all. The
// first part that it goes to, if not whole, ends at m; no other one does.
func walkProof(all part, m int, whole bool, visit func(part)) {
	if m == all.end {
		if !whole {
			visit(all)
		}
		return
	}
	left, right := all.split()
	if m <= left.end {
		walkProof(left, m, whole, visit)
		visit(right)
		return
	}
	walkProof(right, m, false, visit)
	visit(left)
}
