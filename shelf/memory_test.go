package shelf

import (
	"bytes"
	"fmt"
	"math"
	"math/rand/v2"
	"slices"
	"testing"

	"yearbook/api"
)

// roomy answers b with spare room behind it, full of fill.
func roomy(b []byte, fill byte) []byte {
	return append(bytes.Clone(b), bytes.Repeat([]byte{fill}, 50)...)[:len(b)]
}

func roomyList(l [][]byte, fill byte) [][]byte {
	var out [][]byte
	for _, b := range l {
		out = append(out, roomy(b, fill))
	}
	for range 9 {
		out = append(out, bytes.Repeat([]byte{fill}, int(fill)))
	}
	return out[:len(l)]
}

func roomyManifest(m api.Manifest, fill byte) api.Manifest {
	m = cloneOf(m)
	m.Head.Root = roomy(m.Head.Root, fill)
	for k := range m.Segments {
		m.Segments[k].Packed = roomy(m.Segments[k].Packed, fill)
	}
	n := len(m.Segments)
	for k := range 3 {
		m.Segments = append(m.Segments, api.Segment{First: 8 * (n + k), Count: int(fill), Packed: roomy([]byte{0, 1, 0, 0}, fill)})
	}
	m.Segments = m.Segments[:n]
	return m
}

// memoryOf answers all lists of bytes of m, with their spare room.
func memoryOf(m api.Manifest) [][]byte {
	out := [][]byte{m.Head.Root[:cap(m.Head.Root)]}
	for _, s := range m.Segments[:cap(m.Segments)] {
		out = append(out, s.Packed[:cap(s.Packed)])
	}
	return out
}

// wholeList answers all lists of bytes of l, with their spare room.
func wholeList(l [][]byte) [][]byte {
	var out [][]byte
	for _, b := range l[:cap(l)] {
		out = append(out, b[:cap(b)])
	}
	return out
}

// shape tells all of m but its lists of bytes, which are memoryOf's.
func shape(m api.Manifest) string {
	out := fmt.Sprint(m.Head.Size, len(m.Head.Root), len(m.Segments))
	for _, s := range m.Segments[:cap(m.Segments)] {
		out += fmt.Sprint(" ", s.First, s.Count, len(s.Packed))
	}
	return out
}

func cloneAll(l [][]byte) [][]byte {
	var out [][]byte
	for _, b := range l {
		out = append(out, bytes.Clone(b))
	}
	return out
}

func scribble(memory [][]byte) {
	for _, b := range memory {
		for i := range b {
			b[i] ^= 0xa5
		}
	}
}

// Z2: of Export.
func TestMemoryOfExport(t *testing.T) {
	for _, n := range sizes {
		l := roomyList(entries(n), 7)
		asked := trueManifest(t, entries(n))
		memory := cloneAll(wholeList(l))
		one, _ := Export(l)
		other, _ := Export(roomyList(entries(n), 9))
		wantManifest(t, "other spare room", other, asked)
		wantList(t, "what is handed in", wholeList(l), memory)
		scribble(wholeList(l))
		scribble(memoryOf(other))
		wantManifest(t, "the answer, when what was handed in changes", one, asked)
		scribble(wholeList(l))
		scribble(memoryOf(one))
		wantList(t, "what is handed in, when the answer changes", wholeList(l), memory)
		areApart(t, "Export", memoryOf(one))
	}
}

// areApart holds that none of l shares memory with another: when one of them
// changes, the others stay.
func areApart(t *testing.T, what string, l [][]byte) {
	t.Helper()
	for i := range l {
		before := cloneAll(l)
		scribble(l[i : i+1])
		for k := range l {
			if k != i && !bytes.Equal(l[k], before[k]) {
				t.Errorf("%s: list %d changes with %d", what, k, i)
			}
		}
	}
}

// reading has a name, and answers all lists of bytes that the call answers.
type reading struct {
	name string
	run  func(m api.Manifest) [][]byte
}

func readings() []reading {
	return []reading{
		{"Verify", func(m api.Manifest) [][]byte { l, _ := Verify(m); return l }},
		{"the first segment", func(m api.Manifest) [][]byte { l, _ := Segment(m, 0); return l }},
		{"the last segment", func(m api.Manifest) [][]byte { l, _ := Segment(m, len(m.Segments)-1); return l }},
		{"no segment", func(m api.Manifest) [][]byte { l, _ := Segment(m, len(m.Segments)); return l }},
		{"the first entry", func(m api.Manifest) [][]byte { b, _ := Entry(m, 0); return [][]byte{b} }},
		{"the last entry", func(m api.Manifest) [][]byte { b, _ := Entry(m, m.Head.Size-1); return [][]byte{b} }},
	}
}

// Z2: of what reads manifests.
func TestMemoryOfReading(t *testing.T) {
	for _, n := range sizes {
		spoilt := trueManifest(t, entries(n))
		spoilt.Head.Root[3]++
		for _, m := range []api.Manifest{trueManifest(t, entries(n)), spoilt} {
			for _, c := range readings() {
				tryReading(t, fmt.Sprintf("%s of %d", c.name, n), c, m)
			}
		}
	}
}

func tryReading(t *testing.T, what string, c reading, m api.Manifest) {
	t.Helper()
	given := roomyManifest(m, 1)
	memory, form := cloneAll(memoryOf(given)), shape(given)
	one := c.run(given)
	asked := cloneAll(one)
	other := c.run(roomyManifest(m, 8))
	wantList(t, what+", other spare room", other, asked)
	scribble(wholeList(other))
	wantList(t, what+", what is handed in", memoryOf(given), memory)
	scribble(memoryOf(given))
	wantList(t, what+", when what was handed in changes", one, asked)
	scribble(memoryOf(given))
	areApart(t, what, wholeList(one))
	wantList(t, what+", when the answer changes", memoryOf(given), memory)
	if shape(given) != form {
		t.Errorf("%s: %s is left, not %s", what, shape(given), form)
	}
}

// Z3: nil and what has no entries are the same.
func TestNothing(t *testing.T) {
	one, _ := Export(nil)
	other, _ := Export([][]byte{})
	wantManifest(t, "no entries", one, other)
	one, _ = Export([][]byte{nil})
	other, _ = Export([][]byte{{}})
	wantManifest(t, "an empty entry", one, other)

	for _, m := range []api.Manifest{
		{Head: api.Head{Root: digest()}},
		{Head: api.Head{Root: digest()}, Segments: []api.Segment{}},
	} {
		isVerified(t, "nothing", m, nil)
		isNoSegment(t, "nothing", m, 0, api.ErrNone)
		isNoEntry(t, "nothing", m, 0, api.ErrNone)
	}
	for _, b := range [][]byte{nil, {}} {
		isRefused(t, "no root", api.Manifest{Head: api.Head{Root: b}}, api.ErrProof, 0)
		m := trueManifest(t, entries(3))
		m.Segments[0].Packed = b
		isRefused(t, "nothing packed", m, api.ErrForm, 0)
	}
}

// Z1, Z4: whatever is given, a call answers, and the same again; beside an
// error nothing.
func TestAnything(t *testing.T) {
	r := rand.New(rand.NewPCG(5, 5))
	for range 3000 {
		m := anyManifest(t, r)
		k := []int{math.MinInt, -1, 0, 1, 2, 3, math.MaxInt}[r.IntN(7)]
		for _, c := range []func() ([][]byte, api.Errno){
			func() ([][]byte, api.Errno) { return Segment(m, k) },
			func() ([][]byte, api.Errno) {
				b, err := Entry(m, k)
				if b == nil {
					return nil, err
				}
				return [][]byte{b}, err
			},
			func() ([][]byte, api.Errno) { l, f := Verify(m); return l, f.Err },
		} {
			l, err := c()
			again, errAgain := c()
			if err != errAgain || err != api.OK && l != nil {
				t.Errorf("%s: errno %d and %x, then errno %d", told(m), err, l, errAgain)
			}
			wantList(t, told(m), again, l)
		}
	}
}

// anyManifest answers a true manifest in which some numbers and bytes may be
// any others.
func anyManifest(t *testing.T, r *rand.Rand) api.Manifest {
	t.Helper()
	numbers := []int{math.MinInt, math.MinInt32, -8, -1, 0, 1, 7, 8, 9, 16, 100, 101, math.MaxInt32, math.MaxInt}
	m := trueManifest(t, entries(r.IntN(30)))
	for range r.IntN(4) {
		n := numbers[r.IntN(len(numbers))]
		k := r.IntN(len(m.Segments) + 1)
		if k == len(m.Segments) {
			m.Head.Size = n
			continue
		}
		s := &m.Segments[k]
		switch r.IntN(5) {
		case 0:
			s.First = n
		case 1:
			s.Count = n
		case 2:
			s.Packed = slices.Concat(s.Packed, []byte{byte(n)})
		case 3:
			s.Packed = s.Packed[:r.IntN(len(s.Packed)+1)]
		case 4:
			m.Segments = append(m.Segments, *s)
		}
	}
	return m
}
