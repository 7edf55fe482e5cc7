package tree

import (
	"bytes"
	"crypto/sha256"
	"encoding/hex"
	"slices"
	"testing"

	"yearbook/api"
)

// What must come is worked out here by other ways than the program's: level
// by level from the leaves, and as RFC 9162 checks paths and proofs.

// sizes are those around powers of two, and around MaxLeaves.
var sizes = []int{1, 2, 3, 4, 5, 6, 7, 8, 9, 10, 11, 12, 13, 15, 16, 17, 18, 23, 31, 32, 33, 47, 48, 63, 64, 65, 66, 95, 96, 97, 98, 99, 100}

// leaf answers the i-th of leaves that are unlike, of several lengths.
func leaf(i int) []byte {
	return append(bytes.Repeat([]byte{byte(7 * i)}, i*i%67), byte(i))
}

func leaves(n int) [][]byte {
	l := make([][]byte, n)
	for i := range l {
		l[i] = leaf(i)
	}
	return l
}

// digest answers the i-th of digests that are of no leaves here.
func digest(i int) []byte {
	d := sha256.Sum256([]byte{byte(i), byte(i >> 8), 'd'})
	return d[:]
}

func digests(n int) [][]byte {
	out := make([][]byte, n)
	for i := range out {
		out[i] = digest(i)
	}
	return out
}

func trueLeaf(b []byte) []byte {
	d := sha256.Sum256(append([]byte{0}, b...))
	return d[:]
}

func trueNode(a, b []byte) []byte {
	d := sha256.Sum256(slices.Concat([]byte{1}, a, b))
	return d[:]
}

// nextLevel puts neighbours together; a last one without a neighbour goes up.
func nextLevel(level [][]byte) [][]byte {
	var up [][]byte
	for i := 0; i+1 < len(level); i += 2 {
		up = append(up, trueNode(level[i], level[i+1]))
	}
	if len(level)%2 == 1 {
		up = append(up, level[len(level)-1])
	}
	return up
}

func firstLevel(l [][]byte) [][]byte {
	var level [][]byte
	for _, b := range l {
		level = append(level, trueLeaf(b))
	}
	return level
}

func trueRoot(l [][]byte) []byte {
	if len(l) == 0 {
		d := sha256.Sum256(nil)
		return d[:]
	}
	level := firstLevel(l)
	for len(level) > 1 {
		level = nextLevel(level)
	}
	return level[0]
}

func truePath(l [][]byte, i int) [][]byte {
	var out [][]byte
	for level := firstLevel(l); len(level) > 1; level, i = nextLevel(level), i/2 {
		if other := i ^ 1; other < len(level) {
			out = append(out, level[other])
		}
	}
	return out
}

// trueProof goes by the document's own words.
func trueProof(l [][]byte, m int, whole bool) [][]byte {
	if m == len(l) && whole {
		return nil
	}
	if m == len(l) {
		return [][]byte{trueRoot(l)}
	}
	k := 1
	for 2*k < len(l) {
		k *= 2
	}
	if m <= k {
		return append(trueProof(l[:k], m, whole), trueRoot(l[k:]))
	}
	return append(trueProof(l[k:], m-k, false), trueRoot(l[:k]))
}

// pathRoot answers the root that a path makes, as RFC 9162 (2.1.3.2) has it:
// nil, if it is too short or too long.
func pathRoot(size int, b []byte, i int, p [][]byte) []byte {
	at, last := i, size-1
	made := trueLeaf(b)
	for _, d := range p {
		if last == 0 {
			return nil
		}
		if at%2 == 1 || at == last {
			made = trueNode(d, made)
			for at%2 == 0 && at != 0 {
				at, last = at/2, last/2
			}
		} else {
			made = trueNode(made, d)
		}
		at, last = at/2, last/2
	}
	if last != 0 {
		return nil
	}
	return made
}

// proofRoots answers the two roots that a proof makes, as RFC 9162 (2.1.4.2)
// has it: nil, if it is too short or too long.
func proofRoots(m, size int, oldRoot []byte, p [][]byte) (old, now []byte) {
	if m == size {
		if len(p) != 0 {
			return nil, nil
		}
		return oldRoot, oldRoot
	}
	if m&(m-1) == 0 {
		p = slices.Concat([][]byte{oldRoot}, p)
	}
	if len(p) == 0 {
		return nil, nil
	}
	at, last := m-1, size-1
	for at%2 == 1 {
		at, last = at/2, last/2
	}
	old, now = p[0], p[0]
	for _, d := range p[1:] {
		if last == 0 {
			return nil, nil
		}
		if at%2 == 1 || at == last {
			old, now = trueNode(d, old), trueNode(d, now)
			for at%2 == 0 && at != 0 {
				at, last = at/2, last/2
			}
		} else {
			now = trueNode(now, d)
		}
		at, last = at/2, last/2
	}
	if last != 0 {
		return nil, nil
	}
	return old, now
}

// trueParts answers the roots of an edge's parts, from the left.
func trueParts(l [][]byte) [][]byte {
	var out [][]byte
	for power := 128; power > 0; power /= 2 {
		for len(l) >= power {
			out = append(out, trueRoot(l[:power]))
			l = l[power:]
		}
	}
	return out
}

func want(t *testing.T, what string, got, asked []byte) {
	t.Helper()
	if !bytes.Equal(got, asked) {
		t.Errorf("%s: %x comes, not %x", what, got, asked)
	}
}

func wantList(t *testing.T, what string, got, asked [][]byte) {
	t.Helper()
	if !slices.EqualFunc(got, asked, bytes.Equal) {
		t.Errorf("%s: %x comes, not %x", what, got, asked)
	}
}

func wantFault(t *testing.T, what string, got, asked api.Fault) {
	t.Helper()
	if got != asked {
		t.Errorf("%s: fault %v comes, not %v", what, got, asked)
	}
}

func wantBool(t *testing.T, what string, got, asked bool) {
	t.Helper()
	if got != asked {
		t.Errorf("%s: %v comes", what, got)
	}
}

func unhex(t *testing.T, texts ...string) [][]byte {
	t.Helper()
	var out [][]byte
	for _, text := range texts {
		b, err := hex.DecodeString(text)
		if err != nil {
			t.Fatal(err)
		}
		out = append(out, b)
	}
	return out
}
