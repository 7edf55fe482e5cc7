package fleet

import (
	"bytes"
	"fmt"
	"slices"
	"strings"
	"testing"

	"yearbook/api"
	"yearbook/shelf"
)

// G2: an entry goes to the shard of its time: from From on, below To.
func TestWhereEntriesGo(t *testing.T) {
	for _, windows := range [][][2]int{nil, {{0, 1}}, {{0, 1000000}}, {{5, 6}}, threeWindows(), eightWindows()} {
		times := []int{least, -1, 0, 12, 500000, 1000000, 1000001, most}
		for _, w := range windows {
			times = append(times, w[0]-1, w[0], w[0]+1, w[1]-1, w[1], w[1]+1)
		}
		for _, time := range times {
			asked := api.Answer{Err: api.ErrNone}
			for n, w := range windows {
				if time >= w[0] && time < w[1] {
					asked = api.Answer{Shard: n}
				}
			}
			want(t, fmt.Sprintf("time %d of %v", time, windows), lastAnswer(t, windows, put(time, "x")), asked)
		}
	}
}

// G2: the borders of windows with a gap between them, as numbers.
func TestBorders(t *testing.T) {
	f, a := play(t, threeWindows(), put(0, "a"), put(9, "b"), put(10, "c"), put(12, "d"), put(19, "e"),
		put(20, "f"), put(24, "g"), put(25, "h"), put(29, "i"), put(30, "j"), put(-1, "k"))
	want(t, "answers", a, []api.Answer{
		{}, {Place: 1}, {Shard: 1}, {Shard: 1, Place: 1}, {Shard: 1, Place: 2},
		{Err: api.ErrNone}, {Err: api.ErrNone}, {Shard: 2}, {Shard: 2, Place: 1}, {Err: api.ErrNone}, {Err: api.ErrNone},
	})
	want(t, "fleet", f, api.Fleet{Shards: []api.Shard{
		{From: 0, To: 10, State: 1, Entries: [][]byte{[]byte("a"), []byte("b")}},
		{From: 10, To: 20, State: 1, Entries: [][]byte{[]byte("c"), []byte("d"), []byte("e")}},
		{From: 25, To: 30, State: 1, Entries: [][]byte{[]byte("h"), []byte("i")}},
	}})
}

// G2: an entry of MaxLeaf bytes is taken, one of one more is not.
func TestLongEntries(t *testing.T) {
	for _, n := range []int{0, 1, 199, 200, 201, 202, 255, 256, 1000} {
		asked := api.Answer{Place: 1}
		if n > 200 {
			asked = api.Answer{Err: api.ErrMuch}
		}
		want(t, fmt.Sprint(n, " bytes"), lastAnswer(t, threeWindows(), put(5, "a"), put(5, strings.Repeat("x", n))), asked)
	}
}

// G2: an entry that its shard has stays where it is; another shard takes it.
func TestEntriesThatAreThere(t *testing.T) {
	f, a := play(t, threeWindows(), put(5, "a"), put(6, "b"), put(7, ""), put(9, "a"), put(5, "b"), put(0, ""),
		put(15, "b"), put(15, "a"), put(19, "b"), put(5, "ab"), put(5, "a\x00"), put(5, "ab"))
	want(t, "answers", a, []api.Answer{
		{}, {Place: 1}, {Place: 2}, {}, {Place: 1}, {Place: 2},
		{Shard: 1}, {Shard: 1, Place: 1}, {Shard: 1}, {Place: 3}, {Place: 4}, {Place: 3},
	})
	want(t, "entries", f.Shards[0].Entries, [][]byte{[]byte("a"), []byte("b"), {}, []byte("ab"), []byte("a\x00")})
	want(t, "entries", f.Shards[1].Entries, [][]byte{[]byte("b"), []byte("a")})
}

// G2: a shard with MaxLeaves entries takes no more, but tells where those are
// that it has, and other shards go on.
func TestFullShard(t *testing.T) {
	all := puts(5, 101)
	f, a := play(t, threeWindows(), all[:100]...)
	for i := range a {
		want(t, "place", a[i], api.Answer{Place: i})
	}
	want(t, "entries", f.Shards[0].Entries, entriesPut(all[:100]))
	isRefused(t, "one more", api.ErrMany, threeWindows(), all...)
	isRefused(t, "one more, then another one", api.ErrMany, threeWindows(), append(slices.Clone(all), put(9, "y"))...)
	for _, i := range []int{0, 1, 50, 98, 99} {
		want(t, "one among them", lastAnswer(t, threeWindows(), append(slices.Clone(all), all[i])...), api.Answer{Place: i})
	}
	want(t, "another shard", lastAnswer(t, threeWindows(), append(slices.Clone(all), put(10, "y"))...), api.Answer{Shard: 1})
	want(t, "ninety-nine and one", lastAnswer(t, threeWindows(), append(slices.Clone(all[1:100]), put(5, "y"))...), api.Answer{Place: 99})
}

// G2: a full shard is frozen, exported and retired like others.
func TestFullShardRetires(t *testing.T) {
	all := puts(15, 100)
	head := trueHead(entriesPut(all))
	f, a := play(t, threeWindows(), append(slices.Clone(all), steps(1, api.Retired)...)...)
	for _, x := range a[100:] {
		want(t, "answer", x, api.Answer{Shard: 1, Head: head})
	}
	l, fault := shelf.Verify(f.Shards[1].Manifest)
	want(t, "what was laid away", l, entriesPut(all))
	want(t, "fault", fault, api.Fault{})
}

// G2: what each step does, one after the other.
func TestSteps(t *testing.T) {
	l := append(puts(15, 9), put(5, "a"))
	entries := entriesPut(l[:9])
	head := trueHead(entries)
	manifest, _ := shelf.Export(entries)
	book := []api.Record{{Shard: 1, From: 10, To: 20, Head: head}}
	for state := api.Frozen; state <= api.Retired; state++ {
		f, a := play(t, threeWindows(), append(slices.Clone(l), steps(1, state)...)...)
		asked := api.Shard{From: 10, To: 20, State: state, Entries: entries}
		if state >= api.Archived {
			asked.Manifest = manifest
		}
		if state == api.Retired {
			asked.Entries = nil
		}
		want(t, "shard", f.Shards[1], asked)
		want(t, "book", f.Book, book)
		want(t, "answer", a[len(a)-1], api.Answer{Shard: 1, Head: head})
		want(t, "the others", []api.Shard{f.Shards[0], f.Shards[2]}, []api.Shard{
			{From: 0, To: 10, State: 1, Entries: [][]byte{[]byte("a")}}, {From: 25, To: 30, State: 1}})
	}
}

// G2: the book has the records in the order in which shards were frozen.
func TestBook(t *testing.T) {
	order := []int{3, 0, 7, 1, 6, 5, 2, 4}
	windows := eightWindows()
	var l []api.Do
	for n, w := range windows {
		l = append(l, puts(w[0], n)...)
	}
	var asked []api.Record
	for _, n := range order {
		l = append(l, step(api.DoFreeze, n))
		w := windows[n]
		asked = append(asked, api.Record{Shard: n, From: w[0], To: w[1], Head: trueHead(entriesPut(puts(w[0], n)))})
		f, _ := play(t, windows, l...)
		want(t, "book", f.Book, asked)
	}
	for _, n := range order {
		l = append(l, steps(n, api.Retired)[1:]...)
	}
	f, _ := play(t, windows, l...)
	want(t, "book, when all are retired", f.Book, asked)
}

// G2: a shard that is frozen without entries.
func TestShardWithoutEntries(t *testing.T) {
	none := api.Head{Root: digest()}
	for state := api.Frozen; state <= api.Retired; state++ {
		f, a := play(t, threeWindows(), steps(0, state)...)
		asked := api.Shard{From: 0, To: 10, State: state}
		if state >= api.Archived {
			asked.Manifest.Head = none
		}
		want(t, "shard", f.Shards[0], asked)
		want(t, "book", f.Book, []api.Record{{Shard: 0, From: 0, To: 10, Head: none}})
		want(t, "answer", a[len(a)-1], api.Answer{Head: none})
	}
	isRefused(t, "spoil", api.ErrNone, threeWindows(), append(steps(0, api.Archived), spoil(0, 0, 0, 1))...)
}

// G2: each step in each state.
func TestStates(t *testing.T) {
	asked := map[int]int{api.DoFreeze: api.Open, api.DoExport: api.Frozen, api.DoRetire: api.Archived, api.DoSpoil: api.Archived}
	for state := api.Open; state <= api.Retired; state++ {
		ahead := append([]api.Do{put(15, "a"), put(15, "b")}, steps(1, state)...)
		for kind, right := range asked {
			what := fmt.Sprintf("kind %d in state %d", kind, state)
			last := lastAnswer(t, threeWindows(), append(slices.Clone(ahead), step(kind, 1))...)
			switch {
			case state != right:
				want(t, what, last, api.Answer{Err: api.ErrFit})
			case kind == api.DoSpoil:
				want(t, what, last, api.Answer{Shard: 1})
			default:
				want(t, what, last, api.Answer{Shard: 1, Head: trueHead([][]byte{[]byte("a"), []byte("b")})})
			}
		}
		for _, entry := range []string{"a", "late", ""} {
			last := lastAnswer(t, threeWindows(), append(slices.Clone(ahead), put(15, entry))...)
			want(t, "another shard", lastAnswer(t, threeWindows(), append(slices.Clone(ahead), put(5, entry))...), api.Answer{})
			if state != api.Open {
				want(t, "an entry of a shard that is shut", last, api.Answer{Err: api.ErrShut})
			} else if last.Err != api.OK || last.Shard != 1 {
				t.Errorf("an entry of an open shard: %v comes", last)
			}
		}
	}
}

// G2: kinds and shards that there are not.
func TestNoKindNoShard(t *testing.T) {
	ahead := append(puts(15, 3), steps(1, api.Archived)...)
	for _, kind := range []int{least, -1, 0, 6, 7, 257, most} {
		for _, n := range []int{least, -1, 0, 1, 2, 3, most} {
			isRefused(t, fmt.Sprint("kind ", kind), api.ErrKind, threeWindows(), append(slices.Clone(ahead), step(kind, n))...)
			isRefused(t, fmt.Sprint("kind ", kind, " of no shards"), api.ErrKind, nil, step(kind, n))
		}
	}
	for kind := api.DoFreeze; kind <= api.DoSpoil; kind++ {
		for _, n := range []int{least, -2, -1, 3, 4, 8, 255, most} {
			isRefused(t, fmt.Sprint("shard ", n), api.ErrNone, threeWindows(), append(slices.Clone(ahead), step(kind, n))...)
		}
		for _, n := range []int{-1, 0, 1} {
			isRefused(t, "no shards", api.ErrNone, nil, step(kind, n))
		}
	}
}

// G2: segments and places that there are not; each that there is is turned, and
// by what.
func TestSpoil(t *testing.T) {
	ahead := append(puts(15, 20), steps(1, api.Archived)...)
	before, _ := play(t, threeWindows(), ahead...)
	segments := before.Shards[1].Manifest.Segments
	for _, k := range []int{least, -2, -1, 3, 4, 100, most} {
		for _, at := range []int{-1, 0, most} {
			isRefused(t, fmt.Sprint("segment ", k), api.ErrNone, threeWindows(), append(slices.Clone(ahead), spoil(1, k, at, 1))...)
		}
	}
	for k, s := range segments {
		size := len(s.Packed)
		for _, at := range []int{least, -2, -1, size, size + 1, most} {
			isRefused(t, fmt.Sprint("place ", at), api.ErrRange, threeWindows(), append(slices.Clone(ahead), spoil(1, k, at, 1))...)
		}
		for _, at := range []int{0, 1, size / 2, size - 1} {
			for _, by := range []byte{0, 1, 3, 128, 255} {
				f, a := play(t, threeWindows(), append(slices.Clone(ahead), spoil(1, k, at, by))...)
				want(t, "answer", a[len(a)-1], api.Answer{Shard: 1})
				asked := cloneFleet(before)
				asked.Shards[1].Manifest.Segments[k].Packed[at] ^= by
				want(t, fmt.Sprintf("segment %d, place %d, by %d", k, at, by), f, asked)
			}
		}
	}
}

// G2: a shard whose manifest is spoilt isn't retired, whatever Verify finds, and
// is as soon as it is spoilt back.
func TestSpoiltAndBack(t *testing.T) {
	ahead := append(puts(15, 20), steps(1, api.Archived)...)
	whole, _ := play(t, threeWindows(), append(slices.Clone(ahead), step(api.DoRetire, 1))...)
	found := map[api.Errno]int{}
	for k, s := range whole.Shards[1].Manifest.Segments {
		for at := range s.Packed {
			for _, by := range []byte{1, 16, 128} {
				found[trySpoilt(t, ahead, whole, spoil(1, k, at, by))]++
			}
		}
	}
	for _, err := range []api.Errno{api.ErrForm, api.ErrMuch, api.ErrProof} {
		if found[err] == 0 {
			t.Errorf("errno %d never comes: %v", err, found)
		}
	}
}

// trySpoilt spoils by d what ahead laid away of shard 1, and then by d again;
// whole is the fleet that comes without that.
func trySpoilt(t *testing.T, ahead []api.Do, whole api.Fleet, d api.Do) api.Errno {
	t.Helper()
	what := fmt.Sprintf("segment %d, place %d, by %d", d.Segment, d.At, d.By)
	m := cloneFleet(whole).Shards[1].Manifest
	m.Segments[d.Segment].Packed[d.At] ^= d.By
	_, fault := shelf.Verify(m)
	retire := step(api.DoRetire, 1)
	last := lastAnswer(t, threeWindows(), append(slices.Clone(ahead), d, retire)...)
	if fault.Err == api.OK {
		want(t, what, last.Err, api.OK)
		return api.OK
	}
	want(t, what, last, api.Answer{Err: fault.Err})
	f, a := play(t, threeWindows(), append(slices.Clone(ahead), d, retire, d, retire)...)
	want(t, what+", and back", f, whole)
	want(t, what+", and back", a[len(a)-1], api.Answer{Shard: 1, Head: whole.Shards[1].Manifest.Head})
	return fault.Err
}

// G2: spoilt to other tokens that tell the same entry: the shard is retired, its
// manifest stays as it is, and the entry is shown.
func TestSpoiltToTheSame(t *testing.T) {
	const entry = "aaabaaacaaa" // the last three stand four ahead, and eight ahead too
	ahead := append([]api.Do{put(5, entry)}, steps(0, api.Archived)...)
	f, _ := play(t, threeWindows(), ahead...)
	packed := f.Shards[0].Manifest.Segments[0].Packed
	last := len(packed) - 1
	want(t, "the last three", packed[last-1:], []byte{0, 3})
	f, a := play(t, threeWindows(), append(ahead, spoil(0, 0, last, 4), step(api.DoRetire, 0))...)
	want(t, "answer", a[len(a)-1], api.Answer{Head: trueHead([][]byte{[]byte(entry)})})
	want(t, "packed", f.Shards[0].Manifest.Segments[0].Packed, append(bytes.Clone(packed[:last]), 7))
	s, err := Show(f, 0, 0)
	want(t, "shown", []any{string(s.Entry), err}, []any{entry, api.OK})
}

// G2: which error is told, where several fit.
func TestWhichErrorIsTold(t *testing.T) {
	long := strings.Repeat("x", 201)
	w := threeWindows()
	full := puts(5, 100)
	isRefused(t, "too long, and of no shard", api.ErrMuch, w, put(22, long))
	isRefused(t, "too long, and of no shard at all", api.ErrMuch, nil, put(5, long))
	isRefused(t, "too long, for a shard that is shut", api.ErrMuch, w, step(api.DoFreeze, 0), put(5, long))
	isRefused(t, "too long, for a shard that is full", api.ErrMuch, w, append(slices.Clone(full), put(5, long))...)
	isRefused(t, "of a shard that is shut, and has it", api.ErrShut, w, put(5, "a"), step(api.DoFreeze, 0), put(5, "a"))
	isRefused(t, "of a shard that is shut, and full", api.ErrShut, w, append(slices.Clone(full), step(api.DoFreeze, 0), put(5, "y"))...)
	isRefused(t, "no kind, and no shard", api.ErrKind, w, step(6, 3))
	isRefused(t, "no kind, and too long", api.ErrKind, w, api.Do{Kind: 6, Entry: []byte(long), Time: 22})
	isRefused(t, "no shard, and no segment", api.ErrNone, w, spoil(3, 9, 9, 1))
	isRefused(t, "a wrong state, and no segment", api.ErrFit, w, spoil(0, 9, 9, 1))
	isRefused(t, "a wrong state, and no place", api.ErrFit, w, put(5, "a"), step(api.DoFreeze, 0), spoil(0, 0, -1, 1))
	isRefused(t, "no segment, and no place", api.ErrNone, w, append(append(puts(5, 3), steps(0, api.Archived)...), spoil(0, 1, -1, 1))...)
	spoilt := append(append(puts(5, 3), steps(0, api.Archived)...), spoil(0, 0, 1, 1))
	isRefused(t, "exported again, when spoilt", api.ErrFit, w, append(slices.Clone(spoilt), step(api.DoExport, 0))...)
}

// Z5: fields that a kind has not mean nothing.
func TestOtherFields(t *testing.T) {
	l := append(puts(15, 9), put(5, "a"), put(15, ""), step(api.DoFreeze, 0), step(api.DoFreeze, 1), step(api.DoExport, 1),
		spoil(1, 0, 4, 5), step(api.DoRetire, 1), spoil(1, 0, 4, 5), step(api.DoRetire, 1), step(api.DoRetire, 2), step(6, 0))
	long := bytes.Repeat([]byte{1}, 300)
	full := slices.Clone(l)
	for i, d := range l {
		other := api.Do{Kind: d.Kind, N: 99, Time: -5, Entry: long, Segment: -7, At: most, By: 77}
		switch d.Kind {
		case api.DoSubmit:
			other.Time, other.Entry = d.Time, d.Entry
		case api.DoSpoil:
			other.N, other.Segment, other.At, other.By = d.N, d.Segment, d.At, d.By
		default:
			other.N = d.N
		}
		full[i] = other
	}
	f, a := play(t, threeWindows(), l...)
	otherF, otherA := play(t, threeWindows(), full...)
	want(t, "fleet", otherF, f)
	want(t, "answers", otherA, a)
}
