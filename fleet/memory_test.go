package fleet

import (
	"bytes"
	"fmt"
	"math/rand/v2"
	"slices"
	"testing"

	"yearbook/api"
)

// roomy answers b with spare room behind it, full of fill.
func roomy(b []byte, fill byte) []byte {
	return append(bytes.Clone(b), bytes.Repeat([]byte{fill}, 50)...)[:len(b)]
}

func roomyList(l [][]byte, fill byte) [][]byte {
	var out [][]byte
	for _, b := range l {
		out = append(out, roomy(b, fill))
	}
	for range 3 {
		out = append(out, bytes.Repeat([]byte{fill}, int(fill)))
	}
	return out[:len(l)]
}

func roomyDos(l []api.Do, fill byte) []api.Do {
	var out []api.Do
	for _, d := range l {
		d.Entry = roomy(d.Entry, fill)
		out = append(out, d)
	}
	for range 3 {
		out = append(out, put(int(fill), "behind"))
	}
	return out[:len(l)]
}

func roomyWindows(l [][2]int, fill int) [][2]int {
	return append(slices.Clone(l), [2]int{fill, fill + 1}, [2]int{fill, 0})[:len(l)]
}

// roomyFleet answers f in memory of its own, with spare room behind each list.
func roomyFleet(f api.Fleet, fill byte) api.Fleet {
	f = cloneFleet(f)
	for n := range f.Shards {
		s := &f.Shards[n]
		s.Entries = roomyList(s.Entries, fill)
		s.Manifest.Head.Root = roomy(s.Manifest.Head.Root, fill)
		for k := range s.Manifest.Segments {
			s.Manifest.Segments[k].Packed = roomy(s.Manifest.Segments[k].Packed, fill)
		}
		count := len(s.Manifest.Segments)
		s.Manifest.Segments = append(s.Manifest.Segments, api.Segment{First: 8 * count, Count: int(fill)})[:count]
	}
	for i := range f.Book {
		f.Book[i].Head.Root = roomy(f.Book[i].Head.Root, fill)
	}
	shards, rows := len(f.Shards), len(f.Book)
	f.Shards = append(f.Shards, api.Shard{State: int(fill)})[:shards]
	f.Book = append(f.Book, api.Record{Shard: int(fill) % 4, To: 5, Head: api.Head{Root: digest()}})[:rows]
	return f
}

func roomyShown(s api.Shown, fill byte) api.Shown {
	s.Entry = roomy(s.Entry, fill)
	s.Path, s.BookPath = roomyList(s.Path, fill), roomyList(s.BookPath, fill)
	s.Record.Head.Root, s.BookHead.Root = roomy(s.Record.Head.Root, fill), roomy(s.BookHead.Root, fill)
	return s
}

// memory is lists of bytes, and lists of such lists, with their spare room.
type memory struct {
	lists [][]byte
	outer [][][]byte
}

func (m *memory) add(l ...[]byte) {
	for _, b := range l {
		m.lists = append(m.lists, b[:cap(b)])
	}
}

func (m *memory) addList(l [][]byte) {
	m.outer = append(m.outer, l[:cap(l)])
	m.add(l[:cap(l)]...)
}

func (m *memory) addFleet(f api.Fleet) {
	for _, s := range f.Shards[:cap(f.Shards)] {
		m.addList(s.Entries)
		m.add(s.Manifest.Head.Root)
		for _, g := range s.Manifest.Segments[:cap(s.Manifest.Segments)] {
			m.add(g.Packed)
		}
	}
	for _, r := range f.Book[:cap(f.Book)] {
		m.add(r.Head.Root)
	}
}

func (m *memory) addShown(s api.Shown) {
	m.add(s.Entry, s.Record.Head.Root, s.BookHead.Root)
	m.addList(s.Path)
	m.addList(s.BookPath)
}

// areApart holds that no two of the lists share memory.
func (m *memory) areApart(t *testing.T, what string) {
	t.Helper()
	inner, outer := map[*byte]int{}, map[*[]byte]int{}
	for i, b := range m.lists {
		for k := range b {
			if other, shared := inner[&b[k]]; shared {
				t.Fatalf("%s: lists %d and %d share memory", what, other, i)
			}
			inner[&b[k]] = i
		}
	}
	for i, l := range m.outer {
		for k := range l {
			if other, shared := outer[&l[k]]; shared {
				t.Fatalf("%s: lists of lists %d and %d share memory", what, other, i)
			}
			outer[&l[k]] = i
		}
	}
}

func scribble(lists [][]byte) {
	for _, b := range lists {
		for i := range b {
			b[i] ^= 0xa5
		}
	}
}

// manyDos have all kinds, taken and refused.
func manyDos() []api.Do {
	l := append(puts(15, 20), puts(5, 9)...)
	l = append(l, put(15, ""), put(22, "x"), put(5, string(make([]byte, 201))), step(0, 0), step(api.DoExport, 0))
	l = append(l, step(api.DoFreeze, 1), step(api.DoExport, 1), spoil(1, 0, 4, 9), step(api.DoRetire, 1), spoil(1, 0, 4, 9))
	l = append(l, spoil(1, 0, 999, 9), spoil(1, 3, 0, 9), step(api.DoFreeze, 0), step(api.DoFreeze, 2), step(api.DoExport, 0))
	return append(l, step(api.DoRetire, 1), put(15, "late"), step(api.DoExport, 2))
}

// Z2: of Play and Wrong, from the first thing that is done to the last one.
func TestMemoryOfPlay(t *testing.T) {
	for n := range len(manyDos()) + 1 {
		what := fmt.Sprint(n, " things done")
		l, w := roomyDos(manyDos()[:n], 1), roomyWindows(threeWindows(), 7)
		dosBefore, windowsBefore := told(l[:cap(l)]), told(w[:cap(w)])
		var given memory
		for _, d := range l[:cap(l)] {
			given.add(d.Entry)
		}
		before := cloneAll(given.lists)
		f, a, fault := Play(w, l)
		asked := told([]any{f, a, fault})
		want(t, what+", what is handed in", []string{told(l[:cap(l)]), told(w[:cap(w)])}, []string{dosBefore, windowsBefore})
		want(t, what+", the room behind it", given.lists, before)

		all := memory{lists: slices.Clone(given.lists)}
		all.addFleet(f)
		for _, x := range a[:cap(a)] {
			all.add(x.Head.Root)
		}
		all.areApart(t, what)
		otherF, otherA, otherFault := Play(roomyWindows(threeWindows(), 900), roomyDos(manyDos()[:n], 200))
		want(t, what+", other spare room", told([]any{otherF, otherA, otherFault}), asked)
		scribble(given.lists)
		clear(w[:cap(w)])
		want(t, what+", when what was handed in changes", told([]any{f, a, fault}), asked)
	}
	w := roomyWindows([][2]int{{0, 5}, {4, 9}}, 7)
	want(t, "Wrong", []any{Wrong(w), w, w[:3][2]}, []any{api.Fault{Err: api.ErrFit, At: 1}, [][2]int{{0, 5}, {4, 9}}, [2]int{7, 8}})
}

// Z2: of Show, of entries that are shown and such as are not.
func TestMemoryOfShow(t *testing.T) {
	for state := api.Open; state <= api.Retired; state++ {
		plain, _ := play(t, threeWindows(), append(puts(15, 20), append(steps(0, api.Frozen), steps(1, state)...)...)...)
		for k := -1; k <= 3; k++ {
			for i := -1; i <= 20; i++ {
				tryShow(t, fmt.Sprintf("state %d, entry %d of shard %d", state, i, k), plain, k, i)
			}
		}
	}
}

func tryShow(t *testing.T, what string, plain api.Fleet, k, i int) {
	t.Helper()
	f := roomyFleet(plain, 1)
	var given memory
	given.addFleet(f)
	before, form := cloneAll(given.lists), told(f)
	s, err := Show(f, k, i)
	asked := told([]any{s, err})
	want(t, what+", what is handed in", told(f), form)
	want(t, what+", the room behind it", given.lists, before)
	all := memory{lists: slices.Clone(given.lists), outer: slices.Clone(given.outer)}
	all.addShown(s)
	all.areApart(t, what)
	other, otherErr := Show(roomyFleet(plain, 2), k, i)
	want(t, what+", other spare room", told([]any{other, otherErr}), asked)
	scribble(given.lists)
	want(t, what+", when what was handed in changes", told([]any{s, err}), asked)
}

// Z2: of Check, of what is shown and what is not.
func TestMemoryOfCheck(t *testing.T) {
	f := ready(t, api.Retired)
	right, _ := Show(f, 1, 4)
	wrong := cloneShown(right)
	wrong.Path[0][0]++
	for i, s := range []api.Shown{right, wrong, {}} {
		for _, fill := range []byte{1, 200} {
			given, head := roomyShown(s, fill), api.Head{Size: 3, Root: roomy(right.BookHead.Root, fill)}
			var all memory
			all.addShown(given)
			all.add(head.Root)
			before, form := cloneAll(all.lists), told(given)
			want(t, "Check", Check(given, head), i == 0)
			want(t, "what is handed in", told(given), form)
			want(t, "the room behind it", all.lists, before)
		}
	}
}

// Z3: nil and what has no entries are the same.
func TestNothing(t *testing.T) {
	want(t, "windows", Wrong([][2]int{}), Wrong(nil))
	for _, d := range []api.Do{{Kind: api.DoSubmit, Time: 5}, {Kind: api.DoSubmit, Time: 5, Entry: []byte{}}} {
		f, a := play(t, threeWindows(), put(5, "a"), d, put(5, ""))
		want(t, "an empty entry", a, []api.Answer{{}, {Place: 1}, {Place: 1}})
		want(t, "entries", len(f.Shards[0].Entries), 2)
	}
	for _, l := range [][][]byte{nil, {}} {
		f := ready(t, api.Frozen)
		f.Shards[1].Entries = l
		isNotShown(t, "no entries", f, 1, 0, api.ErrNone)
		f.Shards[1].Entries = append(l, []byte{})
		f.Book = f.Book[1:2]
		f.Book[0].Head = trueHead([][]byte{{}})
		s, err := Show(f, 1, 0)
		want(t, "an empty entry", []any{err, Check(s, s.BookHead)}, []any{api.OK, true})
		for _, b := range [][]byte{nil, {}} {
			s.Path, s.BookPath, s.Entry = l, l, b
			want(t, "nothing beside it", Check(s, s.BookHead), true)
		}
		f.Book = []api.Record{}[:0]
		isNotShown(t, "no book", f, 1, 0, api.ErrShut)
	}
}

// anyDo answers something to do that fits often enough.
func anyDo(r *rand.Rand) api.Do {
	numbers := []int{0, 0, 0, 1, 1, 1, 2, 2, -1, 3, least, most}
	d := api.Do{
		Kind: []int{1, 1, 1, 1, 1, 2, 3, 3, 4, 4, 5, 5, 0, 6, -1}[r.IntN(15)], N: numbers[r.IntN(len(numbers))],
		Time: []int{0, 5, 9, 10, 15, 19, 20, 25, 29, 30, -1}[r.IntN(11)], Entry: bytes.Repeat([]byte{byte(r.IntN(3))}, r.IntN(9)),
		Segment: numbers[r.IntN(len(numbers))], At: r.IntN(30) - 2, By: byte(r.IntN(256)),
	}
	if r.IntN(12) == 0 {
		d.Entry = make([]byte, 198+r.IntN(5))
	}
	return d
}

// G1 to G3: whatever is done, the fleet, the answers and what is shown are those
// of a fleet that is known by other means.
func TestAnyPlay(t *testing.T) {
	r := rand.New(rand.NewPCG(7, 7))
	for range 400 {
		var l []api.Do
		for range r.IntN(121) {
			d := anyDo(r)
			l = append(l, d)
			if d.Kind == api.DoSpoil && r.IntN(2) == 0 && len(l) < 119 {
				l = append(l, d)
			}
		}
		f, known := playTrue(t, threeWindows(), l[:min(120, len(l))]...)
		for n, entries := range known.taken {
			for i := -1; i <= len(entries); i++ {
				tryKnown(t, f, known, n, i)
			}
		}
	}
}

func tryKnown(t *testing.T, f api.Fleet, known *trueFleet, n, i int) {
	t.Helper()
	switch {
	case !slices.Contains(known.frozen, n):
		isNotShown(t, "open", f, n, i, api.ErrShut)
	case i < 0 || i >= len(known.taken[n]):
		isNotShown(t, "no entry", f, n, i, api.ErrNone)
	default:
		isShown(t, "known", f, known, n, i)
	}
}

// Z1, Z4: of whatever fleet, Show answers, and the same again, and beside an
// error nothing; what it answers is checked by what Check asks.
func TestAnyFleet(t *testing.T) {
	r := rand.New(rand.NewPCG(8, 8))
	numbers := []int{least, -1, 0, 1, 2, 3, 4, 5, 8, 100, 101, 1000001, most}
	for range 4000 {
		f := ready(t, api.Frozen+r.IntN(3))
		for range r.IntN(4) {
			spoilFleet(r, &f, numbers[r.IntN(len(numbers))])
		}
		k, i := r.IntN(5)-1, r.IntN(11)-1
		s, err := Show(f, k, i)
		again, errAgain := Show(f, k, i)
		want(t, "again", []any{again, errAgain}, []any{s, err})
		if err != api.OK {
			isNotShown(t, "any fleet", f, k, i, err)
			continue
		}
		if len(f.Book) > 0 {
			f.Book[0].Head.Size++
		}
		want(t, "when the fleet changes", again, s)
		Check(s, s.BookHead)
		c := s
		c.Row, c.Place, c.Record.Head.Size = numbers[r.IntN(len(numbers))], numbers[r.IntN(len(numbers))], numbers[r.IntN(len(numbers))]
		if Check(c, s.BookHead) && told(c) != told(s) {
			t.Errorf("%v is shown, beside %v", c, s)
		}
	}
}

// spoilFleet changes something of f.
func spoilFleet(r *rand.Rand, f *api.Fleet, n int) {
	s := &f.Shards[r.IntN(len(f.Shards))]
	row := r.IntN(len(f.Book) + 1)
	switch r.IntN(8) {
	case 0:
		s.State = n
	case 1:
		s.Entries = append(s.Entries, make([]byte, r.IntN(202)))
	case 2:
		s.Entries = nil
	case 3:
		s.Manifest.Head.Size = n
	case 4:
		s.Manifest.Segments = s.Manifest.Segments[:r.IntN(len(s.Manifest.Segments)+1)]
	case 5:
		f.Book = f.Book[:row]
	case 6:
		f.Book = append(slices.Clone(f.Book), f.Book...)
	case 7:
		if row < len(f.Book) {
			f.Book[row].Shard = n
		}
	}
}
