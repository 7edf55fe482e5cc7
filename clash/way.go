package clash

import (
	"bytes"
	"slices"
)

// digest answers a text's digest. It is handed in because nobody knows two
// texts with one SHA-256: only with a weaker digest is there a clash to test.
type digest func(text []byte) []byte

// way is how a root is made: from a leaf or the root of the beginning, by the
// digests of a path or a proof.
type way struct {
	from []byte
	by   [][]byte
}

// ofPaths answers two unlike texts with one digest: a and b are from unlike
// leaves to one root.
func ofPaths(sum digest, left []bool, a, b way) ([]byte, []byte, bool) {
	return highest(pathTexts(sum, left, a), pathTexts(sum, left, b))
}

// ofProofs answers two unlike texts with one digest: a and b are from unlike
// beginnings to one root.
func ofProofs(sum digest, left []bool, a, b way) ([]byte, []byte, bool) {
	return highest(proofTexts(sum, left, a), proofTexts(sum, left, b))
}

// highest answers the last two, of texts on two ways to one root, that are
// unlike. Each text has the digest of the one ahead of it in it: so all that
// comes behind these two being alike, their digests are the same.
func highest(a, b [][]byte) ([]byte, []byte, bool) {
	for k := len(a) - 1; k >= 0; k-- {
		if !bytes.Equal(a[k], b[k]) {
			return a[k], b[k], true
		}
	}
	return nil, nil, false
}

func pathTexts(sum digest, left []bool, w way) [][]byte {
	text := leafText(w.from)
	return append([][]byte{text}, climb(sum, left, sum(text), w.by)...)
}

// proofTexts leaves out the texts of the beginning's own root: those on the
// way to the root of all have every digest of a proof in them, and where the
// beginnings are unlike, so are two of these.
func proofTexts(sum digest, left []bool, w way) [][]byte {
	if len(w.by) == len(left) {
		return climb(sum, left, w.from, w.by)
	}
	return climb(sum, left, w.by[0], w.by[1:])
}

// climb answers the texts of the nodes from made up to the root.
func climb(sum digest, left []bool, made []byte, by [][]byte) [][]byte {
	var texts [][]byte
	for k, other := range by {
		text := nodeText(made, other)
		if left[k] {
			text = nodeText(other, made)
		}
		texts = append(texts, text)
		made = sum(text)
	}
	return texts
}

// leafText answers what a leaf's digest is of.
func leafText(b []byte) []byte {
	return slices.Concat([]byte{0}, b)
}

// nodeText answers what a node's digest is of.
func nodeText(a, b []byte) []byte {
	return slices.Concat([]byte{1}, a, b)
}
