package tree

import (
	"bytes"
	"fmt"
	"math"
	"slices"
	"testing"

	"yearbook/api"
)

// bent answers lists that are each unlike p in one thing: too short, too
// long, with other digests, or with something that is no digest.
func bent(p [][]byte) [][][]byte {
	var out [][][]byte
	for i := range len(p) + 1 {
		for _, d := range [][]byte{digest(1), nil, {}, make([]byte, api.Digest)} {
			out = append(out, slices.Insert(slices.Clone(p), i, d))
		}
	}
	for i, d := range p {
		out = append(out, slices.Delete(slices.Clone(p), i, i+1))
		turned := bytes.Clone(d)
		turned[i%api.Digest] ^= 1
		wrong := [][]byte{turned, nil, {}, d[:api.Digest-1], d[1:], append(bytes.Clone(d), 0), slices.Concat(d, d)}
		for _, x := range wrong {
			q := slices.Clone(p)
			q[i] = x
			out = append(out, q)
		}
		if i > 0 && !bytes.Equal(p[i-1], d) {
			q := slices.Clone(p)
			q[i-1], q[i] = q[i], q[i-1]
			out = append(out, q)
		}
	}
	return append(out, slices.Concat(p, p, digests(1)), digests(200))
}

// bentRoots answers what is not r.
func bentRoots(r []byte) [][]byte {
	turned := bytes.Clone(r)
	turned[api.Digest-1] ^= 0x80
	return [][]byte{turned, nil, {}, r[:api.Digest-1], r[1:], append(bytes.Clone(r), 0), make([]byte, api.Digest)}
}

// B3: what stands there is shown, there alone, and nothing else there.
func TestStandsWhereItStands(t *testing.T) {
	for _, n := range sizes {
		l := leaves(n)
		h := api.Head{Size: n, Root: trueRoot(l)}
		for i := range n {
			p := truePath(l, i)
			wantBool(t, fmt.Sprintf("leaf %d of %d", i, n), Stands(h, l[i], i, p), true)
			wantBool(t, "another leaf", Stands(h, append(bytes.Clone(l[i]), 0), i, p), false)
			wantBool(t, "no bytes", Stands(h, nil, i, p), false)
			for _, k := range []int{math.MinInt, -1, i - 1, i + 1, i ^ 1, n, n + i, math.MaxInt} {
				wantBool(t, fmt.Sprintf("leaf %d of %d at %d", i, n, k), Stands(h, l[i], k, p), false)
			}
		}
	}
}

// B3: paths too short, too long, or of other things than they should be.
func TestStandsWithBentPaths(t *testing.T) {
	for _, n := range []int{1, 2, 3, 4, 5, 7, 8, 9, 33, 64, 65, 100} {
		l := leaves(n)
		h := api.Head{Size: n, Root: trueRoot(l)}
		for i := 0; i < n; i += 1 + n/9 {
			p := truePath(l, i)
			for _, q := range bent(p) {
				wantBool(t, fmt.Sprintf("leaf %d of %d by %x", i, n, q), Stands(h, l[i], i, q), false)
			}
			for _, r := range bentRoots(h.Root) {
				wantBool(t, "another root", Stands(api.Head{Size: n, Root: r}, l[i], i, p), false)
			}
		}
	}
}

// B3: the sizes and lengths that the promise names.
func TestStandsWithinItsLimits(t *testing.T) {
	one := api.Head{Size: 1, Root: trueLeaf(nil)}
	wantBool(t, "one leaf", Stands(one, nil, 0, nil), true)
	wantBool(t, "one leaf", Stands(one, []byte{}, 0, [][]byte{}), true)
	for _, size := range []int{math.MinInt, -1, 0, 2, 101, 128, math.MaxInt} {
		wantBool(t, "another size", Stands(api.Head{Size: size, Root: one.Root}, nil, 0, nil), false)
	}
	wantBool(t, "of none", Stands(api.Head{Root: trueRoot(nil)}, nil, 0, nil), false)
	for length, asked := range map[int]bool{199: true, 200: true, 201: false, 5000: false} {
		b := make([]byte, length)
		wantBool(t, fmt.Sprintf("%d bytes", length), Stands(api.Head{Size: 1, Root: trueLeaf(b)}, b, 0, nil), asked)
	}
	for size, asked := range map[int]bool{99: true, 100: true, 101: false, 128: false} {
		l := leaves(size)
		for _, i := range []int{0, 50, size - 1} {
			got := Stands(api.Head{Size: size, Root: trueRoot(l)}, l[i], i, truePath(l, i))
			wantBool(t, fmt.Sprintf("%d leaves", size), got, asked)
		}
	}
}

// B3: whatever digests a path is of, it shows the root that they make: how
// many it has is the path's number, and no other.
func TestStandsByAnyDigests(t *testing.T) {
	for n := 1; n <= api.MaxLeaves; n++ {
		for i := range n {
			count := len(truePath(make([][]byte, n), i))
			for _, many := range []int{count - 1, count, count + 1} {
				p := digests(max(many, 0))
				r := pathRoot(n, leaf(i), i, p)
				got := Stands(api.Head{Size: n, Root: r}, leaf(i), i, p)
				wantBool(t, fmt.Sprintf("%d digests for %d of %d", len(p), i, n), got, len(p) == count)
			}
		}
	}
}

// B3: what grew is shown.
func TestGrewWhereItGrew(t *testing.T) {
	for _, n := range sizes {
		l := leaves(n)
		now := api.Head{Size: n, Root: trueRoot(l)}
		for m := 1; m <= n; m++ {
			old := api.Head{Size: m, Root: trueRoot(l[:m])}
			p := trueProof(l, m, true)
			wantBool(t, fmt.Sprintf("%d of %d", m, n), Grew(old, now, p), true)
			wantBool(t, "the other way round", Grew(now, old, p), m == n)
			for _, k := range []int{math.MinInt, -m, 0, m - 1, m + 1, n + 1, math.MaxInt} {
				wantBool(t, fmt.Sprintf("%d of %d as %d", m, n, k), Grew(api.Head{Size: k, Root: old.Root}, now, p), false)
			}
		}
	}
}

// B3: proofs too short, too long, or of other things than they should be.
func TestGrewWithBentProofs(t *testing.T) {
	for _, n := range []int{1, 2, 3, 4, 5, 6, 7, 8, 9, 33, 64, 65, 100} {
		l := leaves(n)
		now := api.Head{Size: n, Root: trueRoot(l)}
		for m := 1; m <= n; m += 1 + n/12 {
			old := api.Head{Size: m, Root: trueRoot(l[:m])}
			p := trueProof(l, m, true)
			for _, q := range bent(p) {
				wantBool(t, fmt.Sprintf("%d of %d by %x", m, n, q), Grew(old, now, q), false)
			}
			for _, r := range bentRoots(old.Root) {
				wantBool(t, "another old root", Grew(api.Head{Size: m, Root: r}, now, p), false)
			}
			for _, r := range bentRoots(now.Root) {
				wantBool(t, "another root now", Grew(old, api.Head{Size: n, Root: r}, p), false)
			}
		}
	}
}

// B3: the sizes that the promise names.
func TestGrewWithinItsLimits(t *testing.T) {
	h := func(size int, r []byte) api.Head { return api.Head{Size: size, Root: r} }
	for _, size := range []int{1, 2, 3, 64, 99, 100} {
		wantBool(t, "all of it", Grew(h(size, digest(1)), h(size, digest(1)), nil), true)
		wantBool(t, "all of it", Grew(h(size, digest(1)), h(size, digest(1)), [][]byte{}), true)
		wantBool(t, "all of another", Grew(h(size, digest(1)), h(size, digest(2)), nil), false)
	}
	for _, size := range []int{math.MinInt, -1, 0, 101, 128, math.MaxInt} {
		wantBool(t, "no such size", Grew(h(size, digest(1)), h(size, digest(1)), nil), false)
	}
	wantBool(t, "of none", Grew(h(0, trueRoot(nil)), h(1, digest(1)), nil), false)
	wantBool(t, "of none", Grew(h(0, trueRoot(nil)), h(1, digest(1)), digests(1)), false)
	for size, asked := range map[int]bool{99: true, 100: true, 101: false, 128: false} {
		l := leaves(size)
		for _, m := range []int{1, 50, 64, size - 1, size} {
			got := Grew(h(m, trueRoot(l[:m])), h(size, trueRoot(l)), trueProof(l, m, true))
			wantBool(t, fmt.Sprintf("%d of %d", m, size), got, asked)
		}
	}
	for _, r := range [][]byte{nil, {}, make([]byte, 31), make([]byte, 33)} {
		wantBool(t, "like roots that are no digests", Grew(h(3, r), h(3, r), nil), false)
	}
}

// B3: whatever digests a proof is of, it shows the roots that they make: how
// many it has is the proof's number, and no other.
func TestGrewByAnyDigests(t *testing.T) {
	for n := 1; n <= api.MaxLeaves; n++ {
		for m := 1; m <= n; m++ {
			count := len(trueProof(make([][]byte, n), m, true))
			for _, many := range []int{count - 1, count, count + 1} {
				p := digests(max(many, 0))
				old, now := proofRoots(m, n, digest(77), p)
				got := Grew(api.Head{Size: m, Root: old}, api.Head{Size: n, Root: now}, p)
				wantBool(t, fmt.Sprintf("%d digests for %d of %d", len(p), m, n), got, len(p) == count)
			}
		}
	}
}

// B3: bytes that are cut at another place have the same digest, put together;
// but they are no digests.
func TestCutAtAnotherPlace(t *testing.T) {
	both := slices.Concat(digest(1), digest(2))
	r := trueNode(digest(1), digest(2))
	for cut := range len(both) + 1 {
		old, p := both[:cut], [][]byte{both[cut:]}
		got := Grew(api.Head{Size: 2, Root: old}, api.Head{Size: 4, Root: r}, p)
		wantBool(t, fmt.Sprintf("2 of 4, cut at %d", cut), got, cut == api.Digest)

		// Of three in four: the third one, the fourth one, the first two.
		p = [][]byte{both[cut:], digest(3), both[:cut]}
		now := trueNode(both[:cut], trueNode(both[cut:], digest(3)))
		got = Grew(api.Head{Size: 3, Root: r}, api.Head{Size: 4, Root: now}, p)
		wantBool(t, fmt.Sprintf("3 of 4, cut at %d", cut), got, cut == api.Digest)
	}
}

// B3: a digest longer or shorter than one, under the root that it makes.
func TestStandsByNoDigest(t *testing.T) {
	for _, length := range []int{0, 1, 31, 32, 33, 64, 1000} {
		d := make([]byte, length)
		for _, i := range []int{0, 1} {
			got := Stands(api.Head{Size: 2, Root: pathRoot(2, leaf(5), i, [][]byte{d})}, leaf(5), i, [][]byte{d})
			wantBool(t, fmt.Sprintf("by %d bytes", length), got, length == api.Digest)
		}
		p := [][]byte{digest(1), d, digest(2)}
		got := Stands(api.Head{Size: 8, Root: pathRoot(8, leaf(5), 5, p)}, leaf(5), 5, p)
		wantBool(t, fmt.Sprintf("by %d bytes among others", length), got, length == api.Digest)
	}
}
