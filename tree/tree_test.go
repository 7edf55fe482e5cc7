package tree

import (
	"bytes"
	"math"
	"testing"

	"yearbook/api"
)

// The leaves, roots, paths and proofs that the first logs of RFC 6962 were
// tried with.

func knownLeaves(t *testing.T) [][]byte {
	return unhex(t, "", "00", "10", "2021", "3031", "40414243", "5051525354555657", "606162636465666768696a6b6c6d6e6f")
}

func knownRoots(t *testing.T) [][]byte {
	return unhex(t,
		"e3b0c44298fc1c149afbf4c8996fb92427ae41e4649b934ca495991b7852b855",
		"6e340b9cffb37a989ca544e6bb780a2c78901d3fb33738768511a30617afa01d",
		"fac54203e7cc696cf0dfcb42c92a1d9dbaf70ad9e621f4bd8d98662f00e3c125",
		"aeb6bcfe274b70a14fb067a5e5578264db0fa9b51af5e0ba159158f329e06e77",
		"d37ee418976dd95753c1c73862b9398fa2a2cf9b4ff0fdfe8b30cd95209614b7",
		"4e3bbb1f7b478dcfe71fb631631519a3bca12c9aefca1612bfce4c13a86264d4",
		"76e67dadbcdf1e10e1b74ddc608abd2f98dfb16fbce75277b5232a127f2087ef",
		"ddb89be403809e325750d3d263cd78929c2942b7942a34b77e122c9594a74c8c",
		"5dc9da79a70659a9ad559cb701ded9a2ab9d823aad2f4960cfe370eff4604328")
}

// B1.
func TestKnownRoots(t *testing.T) {
	l := knownLeaves(t)
	for n, asked := range knownRoots(t) {
		got, f := Root(l[:n])
		want(t, "root", got, asked)
		wantFault(t, "root", f, api.Fault{})
	}
}

// B2 and B3.
func TestKnownPathsAndProofs(t *testing.T) {
	l, roots := knownLeaves(t), knownRoots(t)
	head := func(n int) api.Head { return api.Head{Size: n, Root: roots[n]} }
	first := unhex(t,
		"96a296d224f285c67bee93c30f8a309157f0daa35dc5b87e410b78630a09cfc7",
		"5f083f0a1a33ca076a95279832580db3e0ef4584bdff1f54c8a360f50de3031e",
		"6b47aaf29ee3c2af9af889bc1fb9254dabd31177f16232dd6aab035ca39bf6e4")
	got, _ := Path(l, 0)
	wantList(t, "path of 0 in 8", got, first)
	wantBool(t, "0 in 8", Stands(head(8), l[0], 0, first), true)

	proofs := []struct {
		m, n  int
		proof [][]byte
	}{
		{1, 8, first},
		{6, 8, unhex(t,
			"0ebc5d3437fbe2db158b9f126a1d118e308181031d0a949f8dededebc558ef6a",
			"ca854ea128ed050b41b35ffc1b87b8eb2bde461e9e3b5596ece6b9d5975a0ae0",
			"d37ee418976dd95753c1c73862b9398fa2a2cf9b4ff0fdfe8b30cd95209614b7")},
		{2, 5, unhex(t,
			"5f083f0a1a33ca076a95279832580db3e0ef4584bdff1f54c8a360f50de3031e",
			"bc1a0643b12e4d2d7c77918f44e0f4f79a838b6cf9ec5b5c283e1f4d88599e6b")},
	}
	for _, k := range proofs {
		got, _ := Grows(l[:k.n], k.m)
		wantList(t, "known proof", got, k.proof)
		wantBool(t, "known proof", Grew(head(k.m), head(k.n), k.proof), true)
	}
}

// B1: Leaf and Node take whatever bytes they are given.
func TestLeafAndNode(t *testing.T) {
	texts := [][]byte{nil, {}, {0}, {1}, []byte("abc"), digest(1), digest(2), make([]byte, 200), make([]byte, 201), make([]byte, 5000)}
	for _, a := range texts {
		want(t, "Leaf", Leaf(a), trueLeaf(a))
		for _, b := range texts {
			want(t, "Node", Node(a, b), trueNode(a, b))
		}
	}
	if bytes.Equal(Node(digest(1), digest(2)), Node(digest(2), digest(1))) {
		t.Error("Node has no sides")
	}
}

// B1.
func TestRootOfEverySize(t *testing.T) {
	for n := range api.MaxLeaves + 1 {
		got, f := Root(leaves(n))
		want(t, "root", got, trueRoot(leaves(n)))
		wantFault(t, "root", f, api.Fault{})
	}
	same := make([][]byte, api.MaxLeaves)
	got, _ := Root(same)
	want(t, "root of nothings", got, trueRoot(same))
	for i := range same {
		same[i] = make([]byte, api.MaxLeaf)
	}
	got, f := Root(same)
	want(t, "root of the longest", got, trueRoot(same))
	wantFault(t, "root of the longest", f, api.Fault{})
}

// longAt answers n leaves, those at the places given a byte too long.
func longAt(n int, places ...int) [][]byte {
	l := leaves(n)
	for _, i := range places {
		l[i] = make([]byte, api.MaxLeaf+1)
	}
	return l
}

// B1 and B2: what Wrong says, all say, whatever the place.
func TestWrongLeaves(t *testing.T) {
	cases := []struct {
		l     [][]byte
		fault api.Fault
	}{
		{leaves(101), api.Fault{Err: api.ErrMany}},
		{make([][]byte, 101), api.Fault{Err: api.ErrMany}},
		{longAt(101, 0, 50), api.Fault{Err: api.ErrMany}},
		{longAt(101, 100), api.Fault{Err: api.ErrMany}},
		{leaves(1000), api.Fault{Err: api.ErrMany}},
		{longAt(1, 0), api.Fault{Err: api.ErrMuch}},
		{longAt(2, 1), api.Fault{Err: api.ErrMuch, At: 1}},
		{longAt(9, 3, 7), api.Fault{Err: api.ErrMuch, At: 3}},
		{longAt(100, 99), api.Fault{Err: api.ErrMuch, At: 99}},
		{[][]byte{nil, make([]byte, 100000)}, api.Fault{Err: api.ErrMuch, At: 1}},
	}
	for _, c := range cases {
		wantFault(t, "Wrong", Wrong(c.l), c.fault)
		r, f := Root(c.l)
		wantFault(t, "Root", f, c.fault)
		want(t, "Root beside a fault", r, nil)
		for _, i := range []int{math.MinInt, -1, 0, 1, len(c.l), len(c.l) + 1, math.MaxInt} {
			p, f := Path(c.l, i)
			wantFault(t, "Path", f, c.fault)
			wantList(t, "Path beside a fault", p, nil)
			p, f = Grows(c.l, i)
			wantFault(t, "Grows", f, c.fault)
			wantList(t, "Grows beside a fault", p, nil)
		}
	}
	for _, l := range [][][]byte{nil, {}, leaves(1), leaves(100), {nil, make([]byte, 200), {}}} {
		wantFault(t, "Wrong of right ones", Wrong(l), api.Fault{})
	}
}

// B2.
func TestPathOfEveryPlace(t *testing.T) {
	for _, n := range sizes {
		l := leaves(n)
		for i := range n {
			got, f := Path(l, i)
			wantList(t, "path", got, truePath(l, i))
			wantFault(t, "path", f, api.Fault{})
		}
	}
}

// B2.
func TestProofOfEveryBeginning(t *testing.T) {
	for _, n := range sizes {
		l := leaves(n)
		for m := 1; m <= n; m++ {
			got, f := Grows(l, m)
			wantList(t, "proof", got, trueProof(l, m, true))
			wantFault(t, "proof", f, api.Fault{})
		}
	}
}

// B2: places at and beyond the ends.
func TestNoSuchPlace(t *testing.T) {
	for _, n := range append([]int{0}, sizes...) {
		l := leaves(n)
		for _, i := range []int{math.MinInt, -n - 1, -1, n, n + 1, 200, math.MaxInt} {
			p, f := Path(l, i)
			wantFault(t, "Path", f, api.Fault{Err: api.ErrNone})
			wantList(t, "Path beside a fault", p, nil)
		}
		for _, m := range []int{math.MinInt, -n - 1, -1, 0, n + 1, 200, math.MaxInt} {
			p, f := Grows(l, m)
			wantFault(t, "Grows", f, api.Fault{Err: api.ErrRange})
			wantList(t, "Grows beside a fault", p, nil)
		}
	}
}
