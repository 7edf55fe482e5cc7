package clash

import (
	"bytes"
	"crypto/sha256"
	"encoding/binary"
	"fmt"
	"slices"
	"testing"

	"yearbook/api"
	"yearbook/tree"
)

// Nobody can make two texts with one SHA-256. So what is found is tested with
// a digest that has few values, of which much that is false can be shown. What
// must come is worked out here by the document's own words, from the top.

// weak has four values.
func weak(text []byte) []byte {
	d := sha256.Sum256(text)
	return weakDigest(int(d[0]))
}

func weakDigest(k int) []byte {
	return append(make([]byte, api.Digest-1), byte(k%4))
}

func weakLeaf(b []byte) []byte { return weak(append([]byte{0}, b...)) }

func weakNode(a, b []byte) []byte { return weak(slices.Concat([]byte{1}, a, b)) }

// below answers the greatest power of two below n.
func below(n int) int {
	k := 1
	for 2*k < n {
		k *= 2
	}
	return k
}

func weakRoot(l [][]byte) []byte {
	if len(l) == 1 {
		return weakLeaf(l[0])
	}
	k := below(len(l))
	return weakNode(weakRoot(l[:k]), weakRoot(l[k:]))
}

func weakPath(l [][]byte, i int) [][]byte {
	if len(l) == 1 {
		return nil
	}
	k := below(len(l))
	if i < k {
		return append(weakPath(l[:k], i), weakRoot(l[k:]))
	}
	return append(weakPath(l[k:], i-k), weakRoot(l[:k]))
}

func weakProof(l [][]byte, m int, whole bool) [][]byte {
	k := below(len(l))
	switch {
	case m == len(l) && whole:
		return nil
	case m == len(l):
		return [][]byte{weakRoot(l)}
	case m <= k:
		return append(weakProof(l[:k], m, whole), weakRoot(l[k:]))
	}
	return append(weakProof(l[k:], m-k, false), weakRoot(l[:k]))
}

// shownRoot answers the root under which p shows b at i.
func shownRoot(size int, b []byte, i int, p [][]byte) []byte {
	if size == 1 {
		return weakLeaf(b)
	}
	k, last := below(size), len(p)-1
	if i < k {
		return weakNode(shownRoot(k, b, i, p[:last]), p[last])
	}
	return weakNode(p[last], shownRoot(size-k, b, i-k, p[:last]))
}

// shownRoots answers the root of the first m, and that of all, that p shows.
func shownRoots(size, m int, whole bool, old []byte, p [][]byte) (begin, all []byte) {
	k, last := below(size), len(p)-1
	switch {
	case m == size && whole:
		return old, old
	case m == size:
		return p[0], p[0]
	case m <= k:
		begin, all = shownRoots(k, m, whole, old, p[:last])
		return begin, weakNode(all, p[last])
	}
	begin, all = shownRoots(size-k, m-k, false, old, p[:last])
	return weakNode(p[last], begin), weakNode(p[last], all)
}

// dice answers numbers that are always the same, one behind the other.
type dice struct{ rolled uint64 }

func (d *dice) below(n int) int {
	d.rolled++
	h := sha256.Sum256(binary.BigEndian.AppendUint64(nil, d.rolled))
	return int(binary.BigEndian.Uint32(h[:4])) % n
}

// bend answers p with some of its digests turned to others.
func (d *dice) bend(p [][]byte) [][]byte {
	out := slices.Clone(p)
	few := d.below(4) + 1
	for k := range out {
		if d.below(4) < few {
			out[k] = weakDigest(d.below(4))
		}
	}
	return out
}

var weakSizes = []int{1, 2, 3, 4, 5, 6, 7, 8, 9, 12, 15, 16, 17, 31, 32, 33, 63, 64, 65, 99, 100}

// places answers some of n places: those at the ends, in the middle, and around
// powers of two.
func places(n int) []int {
	var out []int
	for i := range n {
		if i < 9 || i > n-4 || i == n/2 || i&(i+1) == 0 || i&(i-1) == 0 {
			out = append(out, i)
		}
	}
	return out
}

// isClash holds that a and b are unlike, and have one digest.
func isClash(t *testing.T, what string, a, b []byte, ok bool) {
	t.Helper()
	if !ok || bytes.Equal(a, b) || !bytes.Equal(weak(a), weak(b)) {
		t.Errorf("%s: %x and %x, %v", what, a, b, ok)
	}
}

// depth tells which of texts (the lowest one first) a is.
func depth(texts [][]byte, a []byte) string {
	at := slices.IndexFunc(texts, func(text []byte) bool { return bytes.Equal(text, a) })
	switch at {
	case -1:
		return "none"
	case 0:
		return "lowest"
	case len(texts) - 1:
		return "highest"
	}
	return "between"
}

// C1: wherever another leaf is shown, there is a clash, be it of the leaves,
// of the roots, or between.
func TestClashOfPaths(t *testing.T) {
	roll, seen := &dice{}, map[string]int{}
	for _, n := range weakSizes {
		l := leaves(n)
		root := weakRoot(l)
		for _, i := range places(n) {
			tried, path := 0, weakPath(l, i)
			for tried < 10 {
				b, p := leaf(roll.below(1000)), roll.bend(path)
				if bytes.Equal(b, l[i]) || !bytes.Equal(shownRoot(n, b, i, p), root) {
					continue
				}
				tried++
				left := tree.PathSides(n, i)
				one, other, ok := ofPaths(weak, left, way{l[i], path}, way{b, p})
				isClash(t, fmt.Sprintf("leaf %d of %d", i, n), one, other, ok)
				if len(path) > 1 {
					seen[depth(pathTexts(weak, left, way{l[i], path}), one)]++
				}
			}
		}
	}
	seenAll(t, seen)
}

// C1: wherever another beginning is shown, there is a clash.
func TestClashOfProofs(t *testing.T) {
	roll, seen := &dice{}, map[string]int{}
	for _, n := range weakSizes {
		l := leaves(n)
		root := weakRoot(l)
		for _, i := range places(n - 1) {
			m := i + 1
			begin, proof := weakRoot(l[:m]), weakProof(l, m, true)
			for range 200 {
				p := roll.bend(proof)
				old, all := shownRoots(n, m, true, weakDigest(roll.below(4)), p)
				if bytes.Equal(old, begin) || !bytes.Equal(all, root) {
					continue
				}
				left := tree.ProofSides(n, m)
				one, other, ok := ofProofs(weak, left, way{begin, proof}, way{old, p})
				isClash(t, fmt.Sprintf("first %d of %d", m, n), one, other, ok)
				seen[fmt.Sprint(n, " ", m)]++
				if len(left) > 2 {
					seen[depth(proofTexts(weak, left, way{begin, proof}), one)]++
				}
			}
		}
	}
	seenAll(t, seen)
	for _, n := range []int{5, 6, 7, 8, 9, 16, 17, 33, 64, 65, 99, 100} {
		for _, m := range []int{1, 2, 3, (n + 1) / 2, n - 2, n - 1} {
			if seen[fmt.Sprint(n, " ", m)] == 0 {
				t.Errorf("nothing false was shown of the first %d of %d", m, n)
			}
		}
	}
}

func seenAll(t *testing.T, seen map[string]int) {
	t.Helper()
	if seen["none"] > 0 || seen["lowest"] == 0 || seen["between"] == 0 || seen["highest"] == 0 {
		t.Errorf("clashes at %v", seen)
	}
}

// C1: where all is alike, there is no clash.
func TestNoClashOfWhatIsAlike(t *testing.T) {
	for _, n := range weakSizes {
		l := leaves(n)
		for _, i := range places(n) {
			w := way{l[i], weakPath(l, i)}
			a, b, ok := ofPaths(weak, tree.PathSides(n, i), w, w)
			isNothing(t, fmt.Sprintf("leaf %d of %d", i, n), a, b, ok)
			m := i + 1
			w = way{weakRoot(l[:m]), weakProof(l, m, true)}
			a, b, ok = ofProofs(weak, tree.ProofSides(n, m), w, w)
			isNothing(t, fmt.Sprintf("first %d of %d", m, n), a, b, ok)
		}
	}
}

// falsehood is something false that can be shown.
type falsehood struct {
	left []bool
	a, b way
	find func(sum digest, left []bool, a, b way) ([]byte, []byte, bool)
}

func (f falsehood) run() [][]byte {
	a, b, _ := f.find(weak, f.left, f.a, f.b)
	return [][]byte{a, b}
}

// memory answers all lists of bytes of f, with their spare room.
func (f falsehood) memory() [][]byte {
	return memoryOf(f.a.by, f.b.by, [][]byte{f.a.from, f.b.from})
}

// falsehoods answers some, of paths and of proofs, each with clashes at
// several heights; fill is in the spare room of their lists.
func falsehoods(fill byte) []falsehood {
	var out []falsehood
	roll := &dice{}
	for len(out) < 60 {
		n := 2 + roll.below(30)
		i := roll.below(n - 1)
		l, b := leaves(n), leaf(roll.below(1000))
		path, proof := weakPath(l, i), weakProof(l, i+1, true)
		p, q := roll.bend(path), roll.bend(proof)
		if !bytes.Equal(b, l[i]) && bytes.Equal(shownRoot(n, b, i, p), weakRoot(l)) {
			out = append(out, falsehood{
				tree.PathSides(n, i), roomyWay(l[i], path, fill), roomyWay(b, p, fill), ofPaths,
			})
		}
		begin := weakRoot(l[:i+1])
		old, all := shownRoots(n, i+1, true, weakDigest(roll.below(4)), q)
		if !bytes.Equal(old, begin) && bytes.Equal(all, weakRoot(l)) {
			out = append(out, falsehood{
				tree.ProofSides(n, i+1), roomyWay(begin, proof, fill), roomyWay(old, q, fill), ofProofs,
			})
		}
	}
	return out
}

func roomyWay(from []byte, by [][]byte, fill byte) way {
	return way{roomy(from, fill), roomyList(by, fill)}
}

// Z2: what is handed in is only read, its spare room is not looked at, and the
// two texts share nothing with it, nor with each other.
func TestTextsAreNewMemory(t *testing.T) {
	others := falsehoods(0)
	for k, f := range falsehoods(0xff) {
		kept := cloneAll(f.memory())
		got, again := f.run(), f.run()
		asked := cloneAll(got)
		isClash(t, "two texts", got[0], got[1], true)
		wantList(t, "what was handed in", f.memory(), kept)
		wantList(t, "with other spare room", others[k].run(), asked)

		scribble(got[:1])
		wantList(t, "one text changed, the other one", got[1:], asked[1:])
		scribble(got[1:])
		wantList(t, "both changed, what was handed in", f.memory(), kept)
		wantList(t, "both changed, another answer", again, asked)

		scribble(f.memory())
		wantList(t, "what was handed in changed, the answer", again, asked)
	}
}
