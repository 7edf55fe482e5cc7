package tree

import (
	"bytes"

	"yearbook/api"
)

// Stands tells whether p shows b to be leaf i under h.
func Stands(h api.Head, b []byte, i int, p [][]byte) bool {
	if h.Size < 1 || h.Size > api.MaxLeaves || i < 0 || i >= h.Size || len(b) > api.MaxLeaf {
		return false
	}
	w := pathOf(h.Size, i)
	if !fits(w, p) {
		return false
	}
	made := Leaf(b)
	along(w, p, func(at part, digest []byte) {
		if at.first < i {
			made = Node(digest, made)
		} else {
			made = Node(made, digest)
		}
	})
	return bytes.Equal(made, h.Root)
}

// Grew tells whether p shows that the leaves under now begin with those under
// old.
func Grew(old, now api.Head, p [][]byte) bool {
	if old.Size < 1 || old.Size > now.Size || now.Size > api.MaxLeaves || !isDigest(old.Root) {
		return false
	}
	w := proofOf(now.Size, old.Size)
	if !fits(w, p) {
		return false
	}
	// Where the proof is whole, it leaves out the part that ends at old.Size:
	// that one's root is then old.Root.
	begin, all := old.Root, old.Root
	along(w, p, func(at part, digest []byte) {
		switch {
		case at.end == old.Size:
			begin, all = digest, digest
		case at.end < old.Size:
			begin, all = Node(digest, begin), Node(digest, all)
		default:
			all = Node(all, digest)
		}
	})
	return bytes.Equal(begin, old.Root) && bytes.Equal(all, now.Root)
}

// along calls visit with each part to which w goes, and the digest that p,
// which fits w, has for it.
func along(w walk, p [][]byte, visit func(at part, digest []byte)) {
	next := 0
	w(func(at part) {
		visit(at, p[next])
		next++
	})
}

// fits tells whether p has a digest for each part to which w goes, and no
// more.
func fits(w walk, p [][]byte) bool {
	count := 0
	w(func(part) { count++ })
	return count == len(p) && areDigests(p)
}

func areDigests(l [][]byte) bool {
	for _, b := range l {
		if !isDigest(b) {
			return false
		}
	}
	return true
}

func isDigest(b []byte) bool { return len(b) == api.Digest }
