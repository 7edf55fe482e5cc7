package tree

// PathSides tells of each digest of leaf i's path among size leaves whether it
// stands on the left of what it is put together with; nothing, if there is no
// such leaf.
func PathSides(size, i int) []bool {
	if i < 0 || i >= size {
		return nil
	}
	var left []bool
	pathOf(size, i)(func(at part) {
		left = append(left, at.end <= i)
	})
	return left
}

// ProofSides tells likewise of the digests of the proof of m in size leaves,
// whole; nothing, if there is no such proof. Where the proof has the part that
// ends at m, that one comes first, and has no side: it is what the others are
// put together with.
func ProofSides(size, m int) []bool {
	if m < 1 || m > size {
		return nil
	}
	var left []bool
	proofOf(size, m)(func(at part) {
		if at.end != m {
			left = append(left, at.end < m)
		}
	})
	return left
}
