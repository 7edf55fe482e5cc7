package fleet

import (
	"bytes"
	"crypto/sha256"
	"encoding/hex"
	"fmt"
	"slices"
	"strings"
	"testing"

	"yearbook/api"
	"yearbook/shelf"
)

const least, most = -1 << 63, 1<<63 - 1

func digest(parts ...[]byte) []byte {
	d := sha256.Sum256(slices.Concat(parts...))
	return d[:]
}

// levels answers the leaves' digests, and above them those of neighbours put
// together; a last one without a neighbour goes up.
func levels(l [][]byte) [][][]byte {
	var level [][]byte
	for _, b := range l {
		level = append(level, digest([]byte{0}, b))
	}
	all := [][][]byte{level}
	for len(level) > 1 {
		var up [][]byte
		for pair := range slices.Chunk(level, 2) {
			if len(pair) == 1 {
				up = append(up, pair[0])
				continue
			}
			up = append(up, digest([]byte{1}, pair[0], pair[1]))
		}
		level = up
		all = append(all, level)
	}
	return all
}

func trueHead(l [][]byte) api.Head {
	if len(l) == 0 {
		return api.Head{Root: digest()}
	}
	all := levels(l)
	return api.Head{Size: len(l), Root: all[len(all)-1][0]}
}

// truePath answers the neighbours of leaf i, level by level.
func truePath(l [][]byte, i int) [][]byte {
	var out [][]byte
	for _, level := range levels(l) {
		if i^1 < len(level) {
			out = append(out, level[i^1])
		}
		i /= 2
	}
	return out
}

// trueLeaves writes the records' numbers in hexadecimal, as many digits as they
// must have.
func trueLeaves(t *testing.T, l []api.Record) [][]byte {
	t.Helper()
	var out [][]byte
	for _, r := range l {
		b, err := hex.DecodeString(fmt.Sprintf("%02x%06x%06x%02x%x", r.Shard, r.From, r.To, r.Head.Size, r.Head.Root))
		if err != nil {
			t.Fatal(err)
		}
		out = append(out, b)
	}
	return out
}

// told tells whatever it is given; nil and what has no entries are the same.
func told(what any) string { return fmt.Sprintf("%v", what) }

func want(t *testing.T, what string, got, asked any) {
	t.Helper()
	if told(got) != told(asked) {
		t.Errorf("%s: %v comes, not %v", what, got, asked)
	}
}

func put(time int, entry string) api.Do {
	return api.Do{Kind: api.DoSubmit, Time: time, Entry: []byte(entry)}
}

func step(kind, n int) api.Do { return api.Do{Kind: kind, N: n} }

func spoil(n, segment, at int, by byte) api.Do {
	return api.Do{Kind: api.DoSpoil, N: n, Segment: segment, At: at, By: by}
}

// puts are so many unlike entries of one time, of many lengths, 0 and 200 among
// them.
func puts(time, count int) []api.Do {
	var l []api.Do
	for i := range count {
		switch i % 5 {
		case 2:
			l = append(l, put(time, strings.Repeat(fmt.Sprint("long ", i, " "), 40)[:200]))
		case 3:
			l = append(l, put(time, strings.Repeat("entry ", i%4)+fmt.Sprint(i)))
		default:
			l = append(l, put(time, strings.Repeat("x", i)))
		}
	}
	return l
}

func entriesPut(l []api.Do) [][]byte {
	var out [][]byte
	for _, d := range l {
		out = append(out, d.Entry)
	}
	return out
}

// steps bring shard n from Open to that state.
func steps(n, state int) []api.Do {
	all := []api.Do{step(api.DoFreeze, n), step(api.DoExport, n), step(api.DoRetire, n)}
	return all[:state-api.Open]
}

// play is Play, where the windows and how much is done are right.
func play(t *testing.T, windows [][2]int, l ...api.Do) (api.Fleet, []api.Answer) {
	t.Helper()
	f, a, fault := Play(windows, l)
	if fault != (api.Fault{}) || len(a) != len(l) || len(f.Shards) != len(windows) {
		t.Fatalf("%v: fault %v comes, %d answers of %d", windows, fault, len(a), len(l))
	}
	return f, a
}

// lastAnswer answers what comes of the last of l, and holds that, where it is
// refused, the fleet is as it was.
func lastAnswer(t *testing.T, windows [][2]int, l ...api.Do) api.Answer {
	t.Helper()
	before, some := play(t, windows, l[:len(l)-1]...)
	after, all := play(t, windows, l...)
	want(t, "what came ahead", all[:len(some)], some)
	last := all[len(some)]
	if last.Err != api.OK {
		want(t, "a fleet of which something is refused", after, before)
	}
	return last
}

func isRefused(t *testing.T, what string, asked api.Errno, windows [][2]int, l ...api.Do) {
	t.Helper()
	want(t, what, lastAnswer(t, windows, l...), api.Answer{Err: asked})
}

// trueFleet is a fleet of which each shard is known by all that was taken into
// it, and by which bytes of its manifest were turned.
type trueFleet struct {
	windows [][2]int
	state   []int
	taken   [][]string
	turned  [][]api.Do
	frozen  []int
}

func newTrueFleet(windows [][2]int) *trueFleet {
	n := len(windows)
	state := slices.Repeat([]int{api.Open}, n)
	return &trueFleet{windows: windows, state: state, taken: make([][]string, n), turned: make([][]api.Do, n)}
}

func (f *trueFleet) entries(n int) [][]byte {
	var out [][]byte
	for _, s := range f.taken[n] {
		out = append(out, []byte(s))
	}
	return out
}

// manifest lays shard n's entries away anew, and turns what was turned.
func (f *trueFleet) manifest(t *testing.T, n int) api.Manifest {
	t.Helper()
	m, fault := shelf.Export(f.entries(n))
	if fault.Err != api.OK {
		t.Fatal(fault)
	}
	for _, d := range f.turned[n] {
		m.Segments[d.Segment].Packed[d.At] ^= d.By
	}
	return m
}

func (f *trueFleet) do(t *testing.T, d api.Do) api.Answer {
	t.Helper()
	if d.Kind == 1 {
		return f.submit(d)
	}
	asked := []int{0, 0, 1, 2, 3, 3}
	switch {
	case d.Kind < 2 || d.Kind > 5:
		return api.Answer{Err: api.ErrKind}
	case d.N < 0 || d.N >= len(f.state):
		return api.Answer{Err: api.ErrNone}
	case f.state[d.N] != asked[d.Kind]:
		return api.Answer{Err: api.ErrFit}
	case d.Kind == 5:
		return f.spoil(t, d)
	case d.Kind == 4:
		if _, fault := shelf.Verify(f.manifest(t, d.N)); fault.Err != api.OK {
			return api.Answer{Err: fault.Err}
		}
	case d.Kind == 2:
		f.frozen = append(f.frozen, d.N)
	}
	f.state[d.N]++
	return api.Answer{Shard: d.N, Head: trueHead(f.entries(d.N))}
}

func (f *trueFleet) submit(d api.Do) api.Answer {
	if len(d.Entry) > 200 {
		return api.Answer{Err: api.ErrMuch}
	}
	for n, w := range f.windows {
		if d.Time < w[0] || d.Time >= w[1] {
			continue
		}
		place := slices.Index(f.taken[n], string(d.Entry))
		switch {
		case f.state[n] != 1:
			return api.Answer{Err: api.ErrShut}
		case place >= 0:
			return api.Answer{Shard: n, Place: place}
		case len(f.taken[n]) == 100:
			return api.Answer{Err: api.ErrMany}
		}
		f.taken[n] = append(f.taken[n], string(d.Entry))
		return api.Answer{Shard: n, Place: len(f.taken[n]) - 1}
	}
	return api.Answer{Err: api.ErrNone}
}

func (f *trueFleet) spoil(t *testing.T, d api.Do) api.Answer {
	t.Helper()
	m := f.manifest(t, d.N)
	if d.Segment < 0 || d.Segment >= len(m.Segments) {
		return api.Answer{Err: api.ErrNone}
	}
	if d.At < 0 || d.At >= len(m.Segments[d.Segment].Packed) {
		return api.Answer{Err: api.ErrRange}
	}
	f.turned[d.N] = append(f.turned[d.N], d)
	return api.Answer{Shard: d.N}
}

// fleet answers f as Play must.
func (f *trueFleet) fleet(t *testing.T) api.Fleet {
	t.Helper()
	var out api.Fleet
	for n, w := range f.windows {
		s := api.Shard{From: w[0], To: w[1], State: f.state[n]}
		if s.State != 4 {
			s.Entries = f.entries(n)
		}
		if s.State >= 3 {
			s.Manifest = f.manifest(t, n)
		}
		out.Shards = append(out.Shards, s)
	}
	for _, n := range f.frozen {
		w := f.windows[n]
		out.Book = append(out.Book, api.Record{Shard: n, From: w[0], To: w[1], Head: trueHead(f.entries(n))})
	}
	return out
}

// trueShown answers entry i of shard n, as Show must where nothing is wrong.
func (f *trueFleet) trueShown(t *testing.T, n, i int) api.Shown {
	t.Helper()
	b := f.fleet(t).Book
	row := slices.Index(f.frozen, n)
	leaves := trueLeaves(t, b)
	return api.Shown{
		Entry: []byte(f.taken[n][i]), Place: i, Shard: n, Path: truePath(f.entries(n), i),
		Record: b[row], Row: row, BookPath: truePath(leaves, row), BookHead: trueHead(leaves),
	}
}

// cloneFleet answers f in memory of its own.
func cloneFleet(f api.Fleet) api.Fleet {
	f.Shards = slices.Clone(f.Shards)
	for n := range f.Shards {
		s := &f.Shards[n]
		s.Entries = cloneAll(s.Entries)
		s.Manifest.Head.Root = bytes.Clone(s.Manifest.Head.Root)
		s.Manifest.Segments = slices.Clone(s.Manifest.Segments)
		for k := range s.Manifest.Segments {
			s.Manifest.Segments[k].Packed = bytes.Clone(s.Manifest.Segments[k].Packed)
		}
	}
	f.Book = slices.Clone(f.Book)
	for i := range f.Book {
		f.Book[i].Head.Root = bytes.Clone(f.Book[i].Head.Root)
	}
	return f
}

func cloneShown(s api.Shown) api.Shown {
	s.Entry = bytes.Clone(s.Entry)
	s.Path, s.BookPath = cloneAll(s.Path), cloneAll(s.BookPath)
	s.Record.Head.Root = bytes.Clone(s.Record.Head.Root)
	s.BookHead.Root = bytes.Clone(s.BookHead.Root)
	return s
}

func cloneAll(l [][]byte) [][]byte {
	var out [][]byte
	for _, b := range l {
		out = append(out, bytes.Clone(b))
	}
	return out
}
