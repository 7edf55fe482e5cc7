package tree

import (
	"bytes"
	"fmt"
	"slices"
	"testing"

	"yearbook/api"
)

// given is what calls are handed in: true things of size leaves.
type given struct {
	l, path, proof [][]byte
	b              []byte
	i, m           int
	now, old       api.Head
	edge           api.Edge
}

// roomy answers b with spare room behind it, full of fill.
func roomy(b []byte, fill byte) []byte {
	return append(bytes.Clone(b), bytes.Repeat([]byte{fill}, 50)...)[:len(b)]
}

func roomyList(l [][]byte, fill byte) [][]byte {
	var out [][]byte
	for _, b := range l {
		out = append(out, roomy(b, fill))
	}
	for range 5 {
		out = append(out, bytes.Repeat([]byte{fill}, int(fill)))
	}
	return out[:len(l)]
}

func makeGiven(size, i, m int, fill byte) given {
	l := leaves(size)
	return given{
		l:     roomyList(l, fill),
		path:  roomyList(truePath(l, i), fill),
		proof: roomyList(trueProof(l, m, true), fill),
		b:     roomy(l[i], fill),
		i:     i,
		m:     m,
		now:   api.Head{Size: size, Root: roomy(trueRoot(l), fill)},
		old:   api.Head{Size: m, Root: roomy(trueRoot(l[:m]), fill)},
		edge:  api.Edge{Size: m, Parts: roomyList(trueParts(l[:m]), fill)},
	}
}

// memory answers all lists of bytes of g, with their spare room.
func (g given) memory() [][]byte {
	var out [][]byte
	for _, l := range [][][]byte{g.l, g.path, g.proof, g.edge.Parts, {g.b, g.now.Root, g.old.Root}} {
		for _, b := range l[:cap(l)] {
			out = append(out, b[:cap(b)])
		}
	}
	return out
}

// shape tells how long g's lists are, those behind their ends too.
func (g given) shape() string {
	var out []int
	for _, l := range [][][]byte{g.l, g.path, g.proof, g.edge.Parts} {
		for _, b := range l[:cap(l)] {
			out = append(out, len(b))
		}
	}
	return fmt.Sprint(out)
}

func cloneAll(l [][]byte) [][]byte {
	var out [][]byte
	for _, b := range l {
		out = append(out, bytes.Clone(b))
	}
	return out
}

func scribble(memory [][]byte) {
	for _, b := range memory {
		b = b[:cap(b)]
		for i := range b {
			b[i] ^= 0xa5
		}
	}
}

// call has a name, and answers all lists of bytes that the call answers.
type call struct {
	name string
	run  func(g given) [][]byte
}

func calls() []call {
	truth := func(b bool) [][]byte { return [][]byte{[]byte(fmt.Sprint(b))} }
	return []call{
		{"Leaf", func(g given) [][]byte { return [][]byte{Leaf(g.b)} }},
		{"Node", func(g given) [][]byte { return [][]byte{Node(g.old.Root, g.now.Root)} }},
		{"Wrong", func(g given) [][]byte { return [][]byte{[]byte(fmt.Sprint(Wrong(g.l)))} }},
		{"Root", func(g given) [][]byte { r, _ := Root(g.l); return [][]byte{r} }},
		{"Path", func(g given) [][]byte { p, _ := Path(g.l, g.i); return p }},
		{"Grows", func(g given) [][]byte { p, _ := Grows(g.l, g.m); return p }},
		{"Stands", func(g given) [][]byte { return truth(Stands(g.now, g.b, g.i, g.path)) }},
		{"Grew", func(g given) [][]byte { return truth(Grew(g.old, g.now, g.proof)) }},
		{"Push", func(g given) [][]byte { e, _ := Push(g.edge, g.b); return e.Parts }},
		{"Top", func(g given) [][]byte { r, _ := Top(g.edge); return [][]byte{r} }},
	}
}

// Z2: what is handed in is only read, its spare room is not looked at, and
// what is answered shares nothing with it, nor with another answer.
func TestMemory(t *testing.T) {
	for _, size := range []int{1, 2, 3, 4, 5, 7, 8, 13, 64, 65, 99} {
		for m := 1; m <= size; m += 1 + size/8 {
			for _, c := range calls() {
				tryMemory(t, c, size, m)
			}
		}
	}
}

func tryMemory(t *testing.T, c call, size, m int) {
	t.Helper()
	g, other := makeGiven(size, m/2, m, 0xff), makeGiven(size, m/2, m, 0)
	kept, shape := cloneAll(g.memory()), g.shape()
	got, again := c.run(g), c.run(g)
	asked := cloneAll(got)
	wantList(t, c.name+": what was handed in", g.memory(), kept)
	wantList(t, c.name+": with other spare room", c.run(other), asked)

	scribble(got)
	wantList(t, c.name+": the first answer changed, what was handed in", g.memory(), kept)
	wantList(t, c.name+": the first answer changed, the second one", again, asked)
	wantList(t, c.name+": the first answer changed, a third one", c.run(g), asked)

	scribble(g.memory())
	wantList(t, c.name+": what was handed in changed, the answer", again, asked)
	scribble(g.memory())
	if g.shape() != shape {
		t.Errorf("%s: lists were changed", c.name)
	}
	ownRoom(t, c.name, again)
}

// ownRoom holds that no list of an answer reaches into another one.
func ownRoom(t *testing.T, name string, l [][]byte) {
	t.Helper()
	for i := range l {
		others := cloneAll(slices.Delete(slices.Clone(l), i, i+1))
		scribble(l[i : i+1])
		wantList(t, name+": one list of the answer changed, the others", slices.Delete(slices.Clone(l), i, i+1), others)
	}
}

// Z2: the list of Push's parts is not a piece of that which was handed in.
func TestPartsAreAnotherList(t *testing.T) {
	for size := range api.MaxLeaves {
		e := api.Edge{Size: size, Parts: roomyList(trueParts(leaves(size)), 9)}
		kept := cloneAll(e.Parts[:cap(e.Parts)])
		got, _ := Push(e, nil)
		asked := cloneAll(got.Parts)
		all := got.Parts[:cap(got.Parts)]
		for i := range all {
			all[i] = nil
		}
		wantList(t, "what was handed in", e.Parts[:cap(e.Parts)], kept)
		again, _ := Push(e, nil)
		wantList(t, "another answer", again.Parts, asked)
	}
}

// Z3: nil and a list without entries are the same.
func TestNothing(t *testing.T) {
	spare := make([]byte, 10)
	for _, none := range [][][]byte{nil, {}, digests(3)[:0]} {
		r, f := Root(none)
		want(t, "Root", r, trueRoot(nil))
		wantFault(t, "Root", f, api.Fault{})
		wantFault(t, "Wrong", Wrong(none), api.Fault{})
		top, err := Top(api.Edge{Parts: none})
		want(t, "Top", top, trueRoot(nil))
		wantErrno(t, "Top", err, api.OK)
		for _, b := range [][]byte{nil, {}, spare[:0]} {
			e, err := Push(api.Edge{Parts: none}, b)
			wantEdge(t, "Push", e, api.Edge{Size: 1, Parts: [][]byte{trueLeaf(nil)}})
			wantErrno(t, "Push", err, api.OK)
			want(t, "Leaf", Leaf(b), trueLeaf(nil))
			want(t, "Node", Node(b, b), trueNode(nil, nil))
			r, _ := Root([][]byte{b, b, b})
			want(t, "Root of nothings", r, trueRoot(make([][]byte, 3)))
			wantBool(t, "Stands", Stands(api.Head{Size: 1, Root: trueLeaf(nil)}, b, 0, none), true)
			wantBool(t, "Stands, without a root", Stands(api.Head{Size: 1, Root: b}, b, 0, none), false)
			wantBool(t, "Grew, without roots", Grew(api.Head{Size: 1, Root: b}, api.Head{Size: 1, Root: nil}, none), false)
		}
		wantBool(t, "Grew", Grew(api.Head{Size: 2, Root: digest(1)}, api.Head{Size: 2, Root: digest(1)}, none), true)
	}
}
