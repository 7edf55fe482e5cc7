package clash

import (
	"bytes"
	"crypto/sha256"
	"fmt"
	"math"
	"slices"
	"testing"

	"yearbook/api"
	"yearbook/sha"
	"yearbook/tree"
)

// sizes are those around powers of two, and around MaxLeaves.
var sizes = []int{1, 2, 3, 4, 5, 7, 8, 9, 15, 16, 17, 31, 32, 33, 63, 64, 65, 99, 100}

// leaf answers the i-th of leaves that are unlike, of several lengths.
func leaf(i int) []byte {
	return append(bytes.Repeat([]byte{byte(7 * i)}, i*i%67), byte(i), byte(i>>8))
}

func leaves(n int) [][]byte {
	l := make([][]byte, n)
	for i := range l {
		l[i] = leaf(i)
	}
	return l
}

func rootOf(t *testing.T, l [][]byte) []byte {
	t.Helper()
	r, f := tree.Root(l)
	if f.Err != api.OK {
		t.Fatal(f)
	}
	return r
}

func pathOf(t *testing.T, l [][]byte, i int) [][]byte {
	t.Helper()
	p, f := tree.Path(l, i)
	if f.Err != api.OK {
		t.Fatal(f)
	}
	return p
}

func proofOf(t *testing.T, l [][]byte, m int) [][]byte {
	t.Helper()
	p, f := tree.Grows(l, m)
	if f.Err != api.OK {
		t.Fatal(f)
	}
	return p
}

func isNothing(t *testing.T, what string, a, b []byte, ok bool) {
	t.Helper()
	if len(a) != 0 || len(b) != 0 || ok {
		t.Errorf("%s: %x, %x, %v", what, a, b, ok)
	}
}

func noStands(t *testing.T, what string, l [][]byte, b []byte, i int, p [][]byte) {
	t.Helper()
	one, other, ok := Stands(l, b, i, p)
	isNothing(t, what, one, other, ok)
}

func noGrew(t *testing.T, what string, l [][]byte, old api.Head, p [][]byte) {
	t.Helper()
	one, other, ok := Grew(l, old, p)
	isNothing(t, what, one, other, ok)
}

func wantList(t *testing.T, what string, got, asked [][]byte) {
	t.Helper()
	if !slices.EqualFunc(got, asked, bytes.Equal) {
		t.Errorf("%s: %x comes, not %x", what, got, asked)
	}
}

// bent answers lists that are each unlike p in one thing: too short, too
// long, with another digest, or with something that is no digest.
func bent(p [][]byte) [][][]byte {
	other := sha.Sum([]byte("other"))
	out := [][][]byte{append(slices.Clone(p), other), slices.Insert(slices.Clone(p), 0, other), slices.Concat(p, [][]byte{nil})}
	for i, d := range p {
		out = append(out, slices.Delete(slices.Clone(p), i, i+1))
		for _, x := range [][]byte{other, nil, d[1:], append(bytes.Clone(d), 0)} {
			q := slices.Clone(p)
			q[i] = x
			out = append(out, q)
		}
	}
	return out
}

// C1: what is truly shown has no clash, and what is not shown has none.
func TestStandsOfTrueThings(t *testing.T) {
	for _, n := range sizes {
		l := leaves(n)
		for _, i := range places(n) {
			what := fmt.Sprintf("leaf %d of %d", i, n)
			p := pathOf(t, l, i)
			noStands(t, what, l, l[i], i, p)
			noStands(t, what+", another one", l, leaf(999), i, p)
			noStands(t, what+", nothing", l, nil, i, p)
			for _, k := range []int{math.MinInt, -1, i - 1, i + 1, i ^ 1, n - 1, n, n + i, math.MaxInt} {
				noStands(t, fmt.Sprint(what, ", at ", k), l, l[i], k, p)
			}
			for _, q := range bent(p) {
				noStands(t, what+", with another path", l, l[i], i, q)
				noStands(t, what+", another one with another path", l, leaf(999), i, q)
			}
		}
	}
}

// C1: likewise of beginnings.
func TestGrewOfTrueThings(t *testing.T) {
	for _, n := range sizes {
		l := leaves(n)
		for _, i := range places(n) {
			m := i + 1
			what := fmt.Sprintf("first %d of %d", m, n)
			p, r := proofOf(t, l, m), rootOf(t, l[:m])
			noGrew(t, what, l, api.Head{Size: m, Root: r}, p)
			for _, k := range []int{math.MinInt, -1, 0, m - 1, m + 1, n + 1, math.MaxInt} {
				noGrew(t, fmt.Sprint(what, ", as ", k), l, api.Head{Size: k, Root: r}, p)
			}
			for _, x := range [][]byte{rootOf(t, l), rootOf(t, l[1:]), sha.Sum(nil), nil, r[1:], append(bytes.Clone(r), 0)} {
				noGrew(t, what+", another root", l, api.Head{Size: m, Root: x}, p)
			}
			for _, q := range bent(p) {
				noGrew(t, what+", another proof", l, api.Head{Size: m, Root: r}, q)
				noGrew(t, what+", another root and proof", l, api.Head{Size: m, Root: rootOf(t, l)}, q)
			}
		}
	}
}

// C1: no leaves, too many, and one that is too long.
func TestNothingOfWrongLeaves(t *testing.T) {
	none := sha.Sum(nil)
	for _, l := range [][][]byte{nil, {}, leaves(3)[:0]} {
		for _, b := range [][]byte{nil, {}, none} {
			for _, i := range []int{math.MinInt, -1, 0, 1, math.MaxInt} {
				noStands(t, "no leaves", l, b, i, nil)
				noStands(t, "no leaves, a path", l, b, i, [][]byte{none})
				noGrew(t, "no leaves", l, api.Head{Size: i, Root: b}, nil)
				noGrew(t, "no leaves, a proof", l, api.Head{Size: i, Root: b}, [][]byte{b})
			}
		}
	}
	long := leaves(5)
	long[3] = make([]byte, api.MaxLeaf+1)
	for _, l := range [][][]byte{leaves(api.MaxLeaves + 1), make([][]byte, 1000), long, {long[3]}} {
		for _, i := range []int{-1, 0, 1, 3, 4, 5, 100, 101} {
			for _, b := range [][]byte{nil, long[3], leaf(i)} {
				noStands(t, "wrong leaves", l, b, i, nil)
				noStands(t, "wrong leaves, a path", l, b, i, slices.Repeat([][]byte{none}, 3))
			}
			noGrew(t, "wrong leaves", l, api.Head{Size: i, Root: none}, nil)
			noGrew(t, "wrong leaves, a proof", l, api.Head{Size: i, Root: none}, slices.Repeat([][]byte{none}, 3))
		}
	}
	most := slices.Repeat([][]byte{make([]byte, api.MaxLeaf)}, api.MaxLeaves)
	noStands(t, "another leaf of the greatest tree", most, nil, 99, pathOf(t, most, 99))
	noStands(t, "too long a leaf", most, make([]byte, api.MaxLeaf+1), 99, pathOf(t, most, 99))
}

// C1: a node's text can't be shown as a leaf, nor a leaf's text as a node.
func TestNodesAreNoLeaves(t *testing.T) {
	l := leaves(4)
	left := slices.Concat([]byte{1}, tree.Leaf(l[0]), tree.Leaf(l[1]))
	for i := range 4 {
		noStands(t, "a node's text", l, left, i, [][]byte{rootOf(t, l[2:])})
		noStands(t, "a node's text, without its first byte", l, left[1:], i, [][]byte{rootOf(t, l[2:])})
	}
	pair := [][]byte{left[1:], l[2]}
	noStands(t, "under a leaf", pair, l[0], 0, [][]byte{tree.Leaf(l[1]), tree.Leaf(l[2])})
}

// C1: leaves that are alike at several places are no clash.
func TestLikeLeaves(t *testing.T) {
	for _, n := range sizes {
		l := slices.Repeat([][]byte{leaf(5)}, n)
		for i := range n {
			noStands(t, "at a place of its own", l, leaf(5), i, pathOf(t, l, i))
			noStands(t, "by another one's path", l, leaf(5), i, pathOf(t, l, n-1-i))
			noGrew(t, "like beginnings", l, api.Head{Size: i + 1, Root: rootOf(t, l[n-1-i:])}, proofOf(t, l, i+1))
		}
	}
}

// C1: the texts on a way are those of the true digests, from the leaf, or the
// beginning, up to the root: what is found is of Sum.
func TestTextsAreOfTheDigests(t *testing.T) {
	for _, n := range sizes {
		l := leaves(n)
		root := rootOf(t, l)
		for i := range n {
			what, m := fmt.Sprintf("%d of %d", i, n), i+1
			texts := pathTexts(sha.Sum, tree.PathSides(n, i), way{l[i], pathOf(t, l, i)})
			if !bytes.Equal(texts[0], append([]byte{0}, l[i]...)) || len(texts) != len(pathOf(t, l, i))+1 {
				t.Errorf("path of %s: %x", what, texts)
			}
			areLinked(t, "path of "+what, texts, root)
			texts = proofTexts(sha.Sum, tree.ProofSides(n, m), way{rootOf(t, l[:m]), proofOf(t, l, m)})
			if m < n {
				areLinked(t, "proof behind "+what, texts, root)
			} else if len(texts) != 0 {
				t.Errorf("texts of all %d: %x", n, texts)
			}
		}
	}
}

// areLinked holds that each text has the digest of the one ahead in it, and
// the last one has root as its digest.
func areLinked(t *testing.T, what string, texts [][]byte, root []byte) {
	t.Helper()
	for k, text := range texts {
		d := sha256.Sum256(text)
		if k == len(texts)-1 {
			wantList(t, what, [][]byte{d[:]}, [][]byte{root})
		} else if up := texts[k+1]; len(up) != 1+2*api.Digest || up[0] != 1 ||
			!bytes.Equal(up[1:1+api.Digest], d[:]) && !bytes.Equal(up[1+api.Digest:], d[:]) {
			t.Errorf("%s: %x is not of %x", what, up, d)
		}
	}
}

// roomy answers b with spare room behind it, full of fill.
func roomy(b []byte, fill byte) []byte {
	return append(bytes.Clone(b), bytes.Repeat([]byte{fill}, 50)...)[:len(b)]
}

func roomyList(l [][]byte, fill byte) [][]byte {
	var out [][]byte
	for _, b := range l {
		out = append(out, roomy(b, fill))
	}
	for range 5 {
		out = append(out, bytes.Repeat([]byte{fill}, 40))
	}
	return out[:len(l)]
}

// memoryOf answers all lists of bytes of lists, with their spare room.
func memoryOf(lists ...[][]byte) [][]byte {
	var out [][]byte
	for _, l := range lists {
		for _, b := range l[:cap(l)] {
			out = append(out, b[:cap(b)])
		}
	}
	return out
}

func cloneAll(l [][]byte) [][]byte {
	var out [][]byte
	for _, b := range l {
		out = append(out, bytes.Clone(b))
	}
	return out
}

func scribble(memory [][]byte) {
	for _, b := range memory {
		b = b[:cap(b)]
		for i := range b {
			b[i] ^= 0xa5
		}
	}
}

// Z2: what is handed in is only read, and its spare room does not matter.
func TestArgumentsAreOnlyRead(t *testing.T) {
	for _, n := range []int{1, 2, 3, 5, 8, 13, 64, 99} {
		for _, fill := range []byte{0, 0xff} {
			for i := range n {
				l := roomyList(leaves(n), fill)
				p, q := roomyList(pathOf(t, l, i), fill), roomyList(proofOf(t, l, i+1), fill)
				r, b := roomy(rootOf(t, l[:i+1]), fill), roomy(l[i], fill)
				kept := cloneAll(memoryOf(l, p, q, [][]byte{r, b}))
				noStands(t, "true leaf", l, b, i, p)
				noStands(t, "true leaf, with spare bytes", l, b[:len(b)+1], i, p)
				noGrew(t, "true beginning", l, api.Head{Size: i + 1, Root: r}, q)
				noGrew(t, "true beginning, wrong size", l[:n-1], api.Head{Size: i + 1, Root: r}, q)
				wantList(t, "what was handed in", memoryOf(l, p, q, [][]byte{r, b}), kept)
			}
		}
	}
}
