package fleet

import (
	"fmt"
	"slices"
	"strings"
	"testing"

	"yearbook/api"
	"yearbook/book"
	"yearbook/shelf"
)

// playTrue plays l with a fleet, and with one that is known by other means.
func playTrue(t *testing.T, windows [][2]int, l ...api.Do) (api.Fleet, *trueFleet) {
	t.Helper()
	f, a := play(t, windows, l...)
	known := newTrueFleet(windows)
	for i, d := range l {
		want(t, fmt.Sprint("answer ", i), a[i], known.do(t, d))
	}
	want(t, "fleet", f, known.fleet(t))
	return f, known
}

// isNotShown holds that Show tells that error, and nothing beside.
func isNotShown(t *testing.T, what string, f api.Fleet, k, i int, asked api.Errno) {
	t.Helper()
	s, err := Show(f, k, i)
	if err != asked || told(s) != told(api.Shown{}) {
		t.Errorf("%s: %v and errno %d come of entry %d of shard %d, not errno %d", what, s, err, i, k, asked)
	}
}

// isShown holds that entry i of shard k is shown as it must be, and checked.
func isShown(t *testing.T, what string, f api.Fleet, known *trueFleet, k, i int) {
	t.Helper()
	asked := known.trueShown(t, k, i)
	s, err := Show(f, k, i)
	want(t, fmt.Sprintf("%s, entry %d of shard %d", what, i, k), []any{s, err}, []any{asked, api.OK})
	head, fault := book.Head(f.Book)
	want(t, "the book's head", []any{head, fault}, []any{asked.BookHead, api.Fault{}})
	if !Check(s, head) {
		t.Errorf("%s: entry %d of shard %d is not shown", what, i, k)
	}
}

// G3: an entry is shown, whether its shard is frozen, archived or retired, and
// however many others are in the book.
func TestShown(t *testing.T) {
	for _, size := range []int{1, 2, 3, 8, 9, 20} {
		for state := api.Frozen; state <= api.Retired; state++ {
			l := append(puts(15, size), put(5, "a"), put(25, ""))
			l = append(l, steps(1, state)...)
			f, known := playTrue(t, threeWindows(), l...)
			areShown(t, "alone", f, known, 1, size)
			f, known = playTrue(t, threeWindows(), append(slices.Clone(l), steps(2, api.Retired)...)...)
			areShown(t, "with one behind", f, known, 1, size)
			isShown(t, "an empty entry", f, known, 2, 0)
			f, known = playTrue(t, threeWindows(), append(append(steps(0, api.Retired), steps(2, api.Frozen)...), l...)...)
			areShown(t, "with two ahead", f, known, 1, size)
		}
	}
}

func areShown(t *testing.T, what string, f api.Fleet, known *trueFleet, k, size int) {
	t.Helper()
	for i := range size {
		isShown(t, what, f, known, k, i)
	}
	for _, i := range []int{least, -1, size, size + 1, 100, most} {
		isNotShown(t, what, f, k, i, api.ErrNone)
	}
}

// G3: all rows of a whole book.
func TestShownInAWholeBook(t *testing.T) {
	windows := eightWindows()
	var l []api.Do
	for n, w := range windows {
		l = append(l, puts(w[0], n+1)...)
	}
	for i, n := range []int{3, 0, 7, 1, 6, 5, 2, 4} {
		l = append(l, steps(n, api.Frozen+i%3)...)
	}
	f, known := playTrue(t, windows, l...)
	for n := range windows {
		areShown(t, "a whole book", f, known, n, n+1)
	}
}

// G3: all entries of a full shard.
func TestShownOfAFullShard(t *testing.T) {
	for _, state := range []int{api.Frozen, api.Retired} {
		f, known := playTrue(t, threeWindows(), append(puts(5, 100), steps(0, state)...)...)
		areShown(t, "a full shard", f, known, 0, 100)
	}
}

// G3: a shard without entries shows none.
func TestShowWithoutEntries(t *testing.T) {
	for state := api.Frozen; state <= api.Retired; state++ {
		f, known := playTrue(t, threeWindows(), steps(1, state)...)
		areShown(t, "no entries", f, known, 1, 0)
	}
}

// G3: shards that there are not, and such as are not in the book.
func TestNoShardNoRecord(t *testing.T) {
	f, _ := play(t, threeWindows(), append(puts(5, 3), append(puts(15, 3), step(api.DoFreeze, 0))...)...)
	for _, i := range []int{-1, 0, 2, 3, most} {
		for _, k := range []int{least, -1, 3, 4, 8, most} {
			isNotShown(t, "no shard", f, k, i, api.ErrNone)
			isNotShown(t, "no fleet", api.Fleet{}, k, i, api.ErrNone)
			isNotShown(t, "a book alone", api.Fleet{Book: []api.Record{{Shard: k}}}, k, i, api.ErrNone)
		}
		for _, k := range []int{1, 2} {
			isNotShown(t, "not in the book", f, k, i, api.ErrShut)
		}
	}
}

// ready is a fleet whose shard 1 has nine entries and is in that state, and has
// the second of three rows.
func ready(t *testing.T, state int) api.Fleet {
	t.Helper()
	l := append(puts(15, 9), put(5, "a"), put(25, "b"), step(api.DoFreeze, 2))
	l = append(l, steps(1, state)...)
	f, _ := play(t, threeWindows(), append(l, step(api.DoFreeze, 0))...)
	return f
}

// G3: of a shard that is Retired Verify's error, and what else stands in it
// means nothing; of others the manifest means nothing.
func TestShowOfAManifest(t *testing.T) {
	spoils := map[api.Errno]func(m *api.Manifest){
		api.ErrMany:  func(m *api.Manifest) { m.Segments = m.Segments[:1] },
		api.ErrFit:   func(m *api.Manifest) { m.Segments[1].First = 0 },
		api.ErrForm:  func(m *api.Manifest) { m.Segments[1].Packed = nil },
		api.ErrMuch:  func(m *api.Manifest) { m.Segments[0].Packed[0] = 255 },
		api.ErrProof: func(m *api.Manifest) { m.Head.Root[31]++ },
	}
	for err, spoilBy := range spoils {
		f := ready(t, api.Retired)
		spoilBy(&f.Shards[1].Manifest)
		_, fault := shelf.Verify(f.Shards[1].Manifest)
		want(t, "Verify", fault.Err, err)
		for _, i := range []int{-1, 0, 8, 9} {
			isNotShown(t, "retired", f, 1, i, err)
		}
		f.Shards[1].Entries = entriesPut(puts(15, 9))
		isNotShown(t, "retired, with entries", f, 1, 0, err)
		for _, state := range []int{api.Archived, api.Frozen, api.Open, 0, -1, 5, least, most} {
			f.Shards[1].State = state
			s, err := Show(f, 1, 4)
			want(t, fmt.Sprint("state ", state), []any{s.Entry, err}, []any{puts(15, 9)[4].Entry, api.OK})
		}
	}
}

// G3: of a shard that is Retired the manifest's entries, not those beside it.
func TestShowOfRetiredWithEntries(t *testing.T) {
	f := ready(t, api.Retired)
	asked, _ := Show(f, 1, 4)
	for _, l := range [][][]byte{{[]byte("x")}, entriesPut(puts(5, 101)), {make([]byte, 300)}} {
		f.Shards[1].Entries = l
		s, err := Show(f, 1, 4)
		want(t, "shown", []any{s, err}, []any{asked, api.OK})
	}
}

// G3: of entries that are too many, or too long, Path's error (chapter 2),
// ahead of a place that there is not.
func TestShowOfWrongEntries(t *testing.T) {
	for _, state := range []int{api.Open, api.Frozen, api.Archived, 0, 5} {
		f := ready(t, api.Frozen)
		f.Shards[1].State = state
		for _, i := range []int{-1, 0, 3, 100, 101} {
			f.Shards[1].Entries = entriesPut(puts(15, 101))
			isNotShown(t, "101 entries", f, 1, i, api.ErrMany)
			f.Shards[1].Entries = entriesPut(puts(15, 9))
			f.Shards[1].Entries[5] = []byte(strings.Repeat("x", 201))
			isNotShown(t, "201 bytes", f, 1, i, api.ErrMuch)
		}
	}
}

// G3: of a book that is wrong Path's error (chapter 6).
func TestShowOfAWrongBook(t *testing.T) {
	for state := api.Frozen; state <= api.Retired; state++ {
		for row := range 3 {
			f := ready(t, state)
			f.Book[row].Head.Root = f.Book[row].Head.Root[:31]
			isNotShown(t, "no digest", f, 1, 0, api.ErrForm)
			f.Book[row].Head.Size = 101
			isNotShown(t, "a number", f, 1, 0, api.ErrRange)
			f = ready(t, state)
			f.Book[row].To = f.Book[row].From
			isNotShown(t, "times", f, 1, 0, api.ErrRange)
		}
		f := ready(t, state)
		f.Book = slices.Repeat(f.Book, 3)
		isNotShown(t, "nine rows", f, 1, 0, api.ErrMany)
		f.Book = f.Book[:8]
		s, err := Show(f, 1, 0)
		want(t, "eight rows", []any{err, s.Row, s.BookHead}, []any{api.OK, 1, trueHead(trueLeaves(t, f.Book))})
	}
}

// G3: a fleet of more shards than may be: those that a record can name are
// shown, others have a record that is wrong.
func TestShowOfManyShards(t *testing.T) {
	f := ready(t, api.Frozen)
	f.Shards = slices.Repeat(f.Shards[1:2], 20)
	s, err := Show(f, 1, 3)
	want(t, "shard 1", []any{err, s.Shard}, []any{api.OK, 1})
	isNotShown(t, "shard 8", f, 8, 3, api.ErrShut)
	f.Book[0].Shard = 8
	isNotShown(t, "shard 8, with a record", f, 8, 3, api.ErrRange)
	isNotShown(t, "shard 1, beside it", f, 1, 3, api.ErrRange)
}

// G3: the first record of the shard is its row, whatever it says.
func TestFirstRow(t *testing.T) {
	f := ready(t, api.Frozen)
	f.Book = append(f.Book, f.Book[1])
	s, err := Show(f, 1, 3)
	want(t, "the same again", []any{err, s.Row, Check(s, s.BookHead)}, []any{api.OK, 1, true})
	f.Book[0].Shard = 1
	s, err = Show(f, 1, 3)
	want(t, "another one ahead", []any{err, s.Row, s.Record, Check(s, s.BookHead)}, []any{api.OK, 0, f.Book[0], false})
	f.Book[0].Shard, f.Book[1].Shard = 2, 2
	s, err = Show(f, 1, 3)
	want(t, "none ahead", []any{err, s.Row, s.Record, Check(s, s.BookHead)}, []any{api.OK, 3, f.Book[3], true})
}

// G3: which error is told, where several fit.
func TestWhichErrorShowTells(t *testing.T) {
	f := ready(t, api.Retired)
	f.Book[2].To = 0
	isNotShown(t, "the book", f, 1, 0, api.ErrRange)
	isNotShown(t, "no entry", f, 1, 9, api.ErrNone)
	f.Shards[1].Manifest.Head.Root[0]++
	isNotShown(t, "the manifest", f, 1, 9, api.ErrProof)
	isNotShown(t, "the manifest", f, 1, 0, api.ErrProof)
	f.Book[1].Shard = 2
	isNotShown(t, "no record", f, 1, 9, api.ErrShut)
	isNotShown(t, "no shard", f, 3, 9, api.ErrNone)
	f = ready(t, api.Frozen)
	f.Book[0].To, f.Shards[1].Entries[3] = 0, make([]byte, 201)
	isNotShown(t, "an entry, and the book", f, 1, 0, api.ErrMuch)
}

// changes are shown things of which just one part is another one than s's.
func changes(s api.Shown) map[string]api.Shown {
	out := map[string]api.Shown{}
	change := func(what string, by func(s *api.Shown)) {
		c := cloneShown(s)
		by(&c)
		out[what] = c
	}
	numbers := map[string]func(s *api.Shown) *int{
		"Place":            func(s *api.Shown) *int { return &s.Place },
		"Shard":            func(s *api.Shown) *int { return &s.Shard },
		"Row":              func(s *api.Shown) *int { return &s.Row },
		"Record.Shard":     func(s *api.Shown) *int { return &s.Record.Shard },
		"Record.From":      func(s *api.Shown) *int { return &s.Record.From },
		"Record.To":        func(s *api.Shown) *int { return &s.Record.To },
		"Record.Head.Size": func(s *api.Shown) *int { return &s.Record.Head.Size },
		"BookHead.Size":    func(s *api.Shown) *int { return &s.BookHead.Size },
	}
	for name, part := range numbers {
		for _, by := range []int{-1, 1, 8, 256, 1 << 24, least} {
			change(fmt.Sprint(name, " by ", by), func(s *api.Shown) { *part(s) += by })
		}
	}
	lists := map[string]func(s *api.Shown) *[]byte{
		"Entry":            func(s *api.Shown) *[]byte { return &s.Entry },
		"Record.Head.Root": func(s *api.Shown) *[]byte { return &s.Record.Head.Root },
		"BookHead.Root":    func(s *api.Shown) *[]byte { return &s.BookHead.Root },
	}
	for i := range s.Path {
		lists[fmt.Sprint("Path ", i)] = func(s *api.Shown) *[]byte { return &s.Path[i] }
	}
	for i := range s.BookPath {
		lists[fmt.Sprint("BookPath ", i)] = func(s *api.Shown) *[]byte { return &s.BookPath[i] }
	}
	for name, part := range lists {
		for at := range *part(&s) {
			change(fmt.Sprint(name, " at ", at), func(s *api.Shown) { (*part(s))[at] ^= 1 })
		}
		change(name+", longer", func(s *api.Shown) { *part(s) = append(*part(s), 0) })
		if n := len(*part(&s)); n > 0 {
			change(name+", shorter", func(s *api.Shown) { *part(s) = (*part(s))[:n-1] })
			change(name+", none", func(s *api.Shown) { *part(s) = nil })
		}
	}
	paths := map[string]func(s *api.Shown) *[][]byte{
		"Path":     func(s *api.Shown) *[][]byte { return &s.Path },
		"BookPath": func(s *api.Shown) *[][]byte { return &s.BookPath },
	}
	for name, part := range paths {
		change(name+", longer", func(s *api.Shown) { *part(s) = append(*part(s), digest()) })
		if n := len(*part(&s)); n > 0 {
			change(name+", shorter", func(s *api.Shown) { *part(s) = (*part(s))[:n-1] })
			change(name+", none", func(s *api.Shown) { *part(s) = nil })
		}
		if len(*part(&s)) > 1 {
			change(name+", the other way", func(s *api.Shown) { slices.Reverse(*part(s)) })
		}
	}
	return out
}

// G3: Check says no, where any one part of what is shown was changed.
func TestCheckOfChanges(t *testing.T) {
	for state := api.Frozen; state <= api.Retired; state++ {
		f := ready(t, state)
		for _, at := range [][2]int{{0, 0}, {1, 0}, {1, 2}, {1, 4}, {1, 8}, {2, 0}} {
			s, err := Show(f, at[0], at[1])
			if err != api.OK || !Check(s, s.BookHead) {
				t.Fatalf("entry %d of shard %d: errno %d comes", at[1], at[0], err)
			}
			for what, c := range changes(s) {
				if Check(c, s.BookHead) {
					t.Errorf("entry %d of shard %d: %s: it is shown", at[1], at[0], what)
				}
			}
		}
	}
}

// G3: Check says no under each other head, whether BookHead says so too or not.
func TestCheckUnderOtherHeads(t *testing.T) {
	f := ready(t, api.Retired)
	s, _ := Show(f, 1, 4)
	var heads []api.Head
	for _, size := range []int{least, -1, 0, 1, 2, 8, 9, 100, 101, most} {
		heads = append(heads, api.Head{Size: size, Root: s.BookHead.Root})
	}
	for _, root := range [][]byte{nil, {}, make([]byte, 32), digest(), s.BookHead.Root[:31], append(slices.Clone(s.BookHead.Root), 0)} {
		heads = append(heads, api.Head{Size: 3, Root: root})
	}
	for n := range 3 {
		heads = append(heads, trueHead(trueLeaves(t, f.Book[:n])))
	}
	heads = append(heads, s.Record.Head)
	for _, h := range heads {
		if Check(s, h) {
			t.Errorf("%v: it is shown", h)
		}
		c := cloneShown(s)
		c.BookHead = h
		if Check(c, h) {
			t.Errorf("%v, which BookHead says too: it is shown", h)
		}
		if Check(c, s.BookHead) {
			t.Errorf("%v says BookHead: it is shown", h)
		}
	}
}

// G3: what is put together of parts that are true of other things.
func TestCheckOfMixedParts(t *testing.T) {
	f := ready(t, api.Archived)
	one, _ := Show(f, 1, 4)
	other, _ := Show(f, 1, 5)
	elsewhere, _ := Show(f, 2, 0)
	mixed := []api.Shown{one, one, one, one, one, {}}
	mixed[0].Entry = other.Entry
	mixed[1].Path = other.Path
	mixed[2].Record, mixed[2].Row, mixed[2].BookPath = elsewhere.Record, elsewhere.Row, elsewhere.BookPath
	mixed[3].Row, mixed[3].BookPath = elsewhere.Row, elsewhere.BookPath
	mixed[4].Shard, mixed[4].Record.Shard = 2, 2
	for i, s := range mixed {
		if Check(s, one.BookHead) || Check(s, s.BookHead) {
			t.Errorf("mixed %d: it is shown", i)
		}
	}
}

// G3: a record that is wrong isn't shown, though its shard is s.Shard.
func TestCheckOfWrongRecords(t *testing.T) {
	for _, n := range []int{-1, 8, 256, 264, least, most} {
		s, _ := Show(ready(t, api.Frozen), 1, 4)
		s.Shard, s.Record.Shard = n, n
		if Check(s, s.BookHead) {
			t.Errorf("shard %d is shown", n)
		}
	}
}

// G3: an entry that was shown under an earlier book is not shown under a later
// one, but by what the later fleet shows.
func TestCheckWhenTheBookGrew(t *testing.T) {
	l := append(puts(15, 9), append(steps(1, api.Retired), step(api.DoFreeze, 0))...)
	early, _ := play(t, threeWindows(), l[:len(l)-1]...)
	late, _ := play(t, threeWindows(), l...)
	before, _ := Show(early, 1, 3)
	after, _ := Show(late, 1, 3)
	want(t, "the shard's own part", []any{before.Entry, before.Path, before.Record}, []any{after.Entry, after.Path, after.Record})
	want(t, "checks", []bool{Check(before, before.BookHead), Check(before, after.BookHead), Check(after, after.BookHead), Check(after, before.BookHead)},
		[]bool{true, false, true, false})
}

// G3: Check asks of h what Stands asks, and no more: a book may be under it that
// has more rows than there are shards.
func TestCheckUnderALongerBook(t *testing.T) {
	f := ready(t, api.Frozen)
	s, _ := Show(f, 1, 4)
	for _, rows := range []int{8, 9, 100, 101} {
		leaves := trueLeaves(t, slices.Repeat(f.Book, 34)[:rows])
		s.BookHead, s.BookPath = trueHead(leaves), truePath(leaves, s.Row)
		want(t, fmt.Sprint(rows, " rows"), Check(s, s.BookHead), rows <= 100)
	}
}
