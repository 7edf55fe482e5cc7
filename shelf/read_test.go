package shelf

import (
	"bytes"
	"fmt"
	"math"
	"slices"
	"strings"
	"testing"

	"yearbook/api"
)

// E2: what is laid away is there, of all sizes and kinds of entries.
func TestWhatIsLaidAwayIsThere(t *testing.T) {
	for _, n := range sizes {
		for kind, l := range kindsOfEntries(n) {
			what := fmt.Sprintf("%d of kind %d", n, kind)
			m := trueManifest(t, l)
			isVerified(t, what, m, l)
			k := 0
			for eight := range slices.Chunk(l, 8) {
				isSegment(t, what, m, k, eight)
				k++
			}
			for i, b := range l {
				isEntry(t, what, m, i, b)
			}
		}
	}
}

// E2: there is no such segment, or entry.
func TestNoneThere(t *testing.T) {
	for _, n := range sizes {
		m := trueManifest(t, entries(n))
		what := fmt.Sprint(n)
		for _, k := range []int{math.MinInt, -8, -1, len(m.Segments), len(m.Segments) + 1, 100, 101, math.MaxInt} {
			isNoSegment(t, what, m, k, api.ErrNone)
		}
		for _, i := range []int{math.MinInt, -8, -1, n, n + 1, 8 * len(m.Segments), 1000, math.MaxInt} {
			isNoEntry(t, what, m, i, api.ErrNone)
		}
	}
}

// E2: a segment that is not there is told ahead of a size that is wrong.
func TestNoneThereWithWrongSize(t *testing.T) {
	for _, size := range []int{math.MinInt, -1, 101, math.MaxInt} {
		m := trueManifest(t, entries(20))
		m.Head.Size = size
		isNoSegment(t, fmt.Sprint(size), m, -1, api.ErrNone)
		isNoSegment(t, fmt.Sprint(size), m, 3, api.ErrNone)
		if size > 0 {
			isNoEntry(t, fmt.Sprint(size), m, 24, api.ErrNone)
			isNoEntry(t, fmt.Sprint(size), m, size-1, api.ErrNone)
		}
	}
}

// E2: Head.Size is below 0, or above MaxLeaves.
func TestWrongSize(t *testing.T) {
	for _, n := range []int{1, 8, 9, 97, 100} {
		for _, size := range []int{math.MinInt, -n, -1, 101, 104, 105, 200, math.MaxInt} {
			m := trueManifest(t, entries(n))
			m.Head.Size = size
			what := fmt.Sprintf("%d of %d", size, n)
			isRefused(t, what, m, api.ErrMany, 0)
			for k := range m.Segments {
				isNoSegment(t, what, m, k, api.ErrFit)
			}
			for i := range n {
				if size < 0 {
					isNoEntry(t, what, m, i, api.ErrNone)
				} else {
					isNoEntry(t, what, m, i, api.ErrFit)
				}
			}
		}
	}
	isRefused(t, "no segments", api.Manifest{Head: api.Head{Size: -1, Root: digest()}}, api.ErrMany, 0)
	isRefused(t, "no segments", api.Manifest{Head: api.Head{Size: -8, Root: digest()}}, api.ErrMany, 0)
}

// longManifest has so many segments of eight entries that all fit a log of
// size entries, if there could be so many.
func longManifest(t *testing.T, segments, size int) api.Manifest {
	t.Helper()
	m := api.Manifest{Head: api.Head{Size: size, Root: digest()}}
	for k := range segments {
		m.Segments = append(m.Segments, api.Segment{First: 8 * k, Count: 8, Packed: packed(t, make([]byte, 8))})
	}
	return m
}

// E2: more entries than a log may have, with all segments that they need, and
// segments above MaxLeaves.
func TestMoreThanThereMayBe(t *testing.T) {
	m := longManifest(t, 13, 104)
	isRefused(t, "104 entries", m, api.ErrMany, 0)
	isNoSegment(t, "104 entries", m, 0, api.ErrFit)
	isNoSegment(t, "104 entries", m, 12, api.ErrFit)
	isNoEntry(t, "104 entries", m, 103, api.ErrFit)
	for _, size := range []int{96, 100, 8 * 110} {
		m := longManifest(t, 110, size)
		isRefused(t, "110 segments", m, api.ErrMany, 0)
		for _, k := range []int{13, 99, 100, 101, 109} {
			isNoSegment(t, fmt.Sprint(size), m, k, api.ErrFit)
		}
		isNoSegment(t, fmt.Sprint(size), m, 110, api.ErrNone)
	}
	m = longManifest(t, 110, 96)
	isSegment(t, "one that fits", m, 11, slices.Repeat([][]byte{{}}, 8))
	isEntry(t, "one that fits", m, 95, nil)
}

// E2: First is not where the segment begins.
func TestWrongFirst(t *testing.T) {
	for _, n := range []int{1, 8, 9, 20, 100} {
		m := trueManifest(t, entries(n))
		for k := range m.Segments {
			for _, by := range []int{math.MinInt, -8, -1, 1, 8, 16, math.MaxInt - 8*k} {
				q := cloneOf(m)
				q.Segments[k].First += by
				what := fmt.Sprintf("segment %d of %d by %d", k, n, by)
				isNoSegment(t, what, q, k, api.ErrFit)
				isNoEntry(t, what, q, 8*k, api.ErrFit)
				isRefused(t, what, q, api.ErrFit, k)
			}
		}
	}
}

// E2: Count is not as many as the segment must have, even if so many entries
// are in it.
func TestWrongCount(t *testing.T) {
	for _, n := range []int{1, 7, 8, 9, 15, 16, 20, 100} {
		m := trueManifest(t, entries(n))
		for k, s := range m.Segments {
			for _, count := range []int{math.MinInt, -8, -1, 0, 1, 2, 3, 4, 5, 6, 7, 8, 9, 16, math.MaxInt} {
				if count == s.Count {
					continue
				}
				q := cloneOf(m)
				q.Segments[k].Count = count
				if count >= 0 && count < 20 {
					q.Segments[k].Packed = packed(t, make([]byte, count))
				}
				what := fmt.Sprintf("segment %d of %d, count %d", k, n, count)
				isNoSegment(t, what, q, k, api.ErrFit)
				isNoEntry(t, what, q, 8*k, api.ErrFit)
				isRefused(t, what, q, api.ErrFit, k)
			}
		}
	}
}

// E2: a segment that begins where no entries are left fits with no Count.
func TestSegmentBehindAll(t *testing.T) {
	for _, size := range []int{0, 3, 7, 8} {
		for count := -8; count <= 9; count++ {
			m := trueManifest(t, entries(16))
			m.Head.Size = size
			m.Segments[1].Count = count
			m.Segments[1].Packed = packed(t, make([]byte, max(0, count)))
			isNoSegment(t, fmt.Sprintf("size %d, count %d", size, count), m, 1, api.ErrFit)
		}
	}
	for count := -1; count <= 8; count++ {
		m := api.Manifest{Head: api.Head{Root: digest()}, Segments: []api.Segment{{Count: count, Packed: packed(t, make([]byte, max(0, count)))}}}
		isNoSegment(t, fmt.Sprint("no entries, count ", count), m, 0, api.ErrFit)
		isNoEntry(t, fmt.Sprint("no entries, count ", count), m, 0, api.ErrNone)
		isRefused(t, fmt.Sprint("no entries, count ", count), m, api.ErrMany, 0)
	}
}

// E2: another size: segments are too few, too many, or as many, the last one's
// Count another.
func TestOtherSize(t *testing.T) {
	for _, n := range []int{1, 7, 8, 9, 16, 20, 96, 100} {
		for size := range 101 {
			if size == n {
				continue
			}
			m := trueManifest(t, entries(n))
			m.Head.Size = size
			what := fmt.Sprintf("%d of %d", size, n)
			if (size+7)/8 == len(m.Segments) {
				isRefused(t, what, m, api.ErrFit, len(m.Segments)-1)
			} else {
				isRefused(t, what, m, api.ErrMany, 0)
			}
		}
	}
}

// E2: segments are too few, or too many; each that is there is still told.
func TestOtherSegments(t *testing.T) {
	for _, n := range []int{1, 8, 9, 20, 96, 100} {
		l := entries(n)
		m := trueManifest(t, l)
		for cut := range m.Segments {
			q := cloneOf(m)
			q.Segments = q.Segments[:cut]
			what := fmt.Sprintf("%d segments of %d", cut, n)
			isRefused(t, what, q, api.ErrMany, 0)
			isNoSegment(t, what, q, cut, api.ErrNone)
			isNoEntry(t, what, q, 8*cut, api.ErrNone)
			if cut > 0 {
				isEntry(t, what, q, 8*cut-1, l[8*cut-1])
			}
		}
		q := cloneOf(m)
		q.Segments = append(q.Segments, q.Segments[len(q.Segments)-1])
		isRefused(t, "one more", q, api.ErrMany, 0)
		isNoSegment(t, "one more", q, len(m.Segments), api.ErrFit)
		isEntry(t, "one more", q, n-1, l[n-1])
	}
}

// E2: Packed is no packed text.
func TestWrongPacked(t *testing.T) {
	much := plainly(make([]byte, 4001))
	for _, n := range []int{1, 8, 9, 20} {
		m := trueManifest(t, entries(n))
		for k, s := range m.Segments {
			refused := func(what string, b []byte, err api.Errno) {
				q := cloneOf(m)
				q.Segments[k].Packed = b
				what = fmt.Sprintf("segment %d of %d, %s", k, n, what)
				isNoSegment(t, what, q, k, err)
				isNoEntry(t, what, q, 8*k, err)
				isRefused(t, what, q, err, k)
			}
			for cut := range s.Packed {
				refused(fmt.Sprint("cut to ", cut), s.Packed[:cut], api.ErrForm)
			}
			refused("nil", nil, api.ErrForm)
			refused("with something behind", append(bytes.Clone(s.Packed), 0), api.ErrForm)
			refused("with more behind", slices.Concat(s.Packed, s.Packed), api.ErrForm)
			refused("too much", much, api.ErrMuch)
			refused("too much told", []byte{255, 255}, api.ErrMuch)
		}
	}
}

// E2: a byte that is turned is found, or tells the same by other tokens.
func TestTurnedBytes(t *testing.T) {
	found := map[api.Errno]int{}
	for _, n := range []int{1, 3, 9, 20} {
		l := entries(n)
		m := trueManifest(t, l)
		for k, s := range m.Segments {
			for at := range s.Packed {
				for _, by := range []byte{1, 2, 4, 8, 16, 32, 64, 128, 255} {
					q := cloneOf(m)
					q.Segments[k].Packed[at] ^= by
					found[tryTurned(t, q, k, l)]++
				}
			}
		}
	}
	for _, err := range []api.Errno{api.ErrForm, api.ErrMuch, api.ErrProof} {
		if found[err] == 0 {
			t.Errorf("errno %d never comes: %v", err, found)
		}
	}
}

// tryTurned holds what comes of m, whose segment k is spoilt, against l.
func tryTurned(t *testing.T, m api.Manifest, k int, l [][]byte) api.Errno {
	t.Helper()
	some, err := Segment(m, k)
	same := slices.EqualFunc(some, l[8*k:min(8*k+8, len(l))], bytes.Equal)
	asked := api.Fault{Err: err, At: k}
	if err == api.OK {
		asked.At = 0
		if !same {
			asked.Err = api.ErrProof
		}
	}
	all, f := Verify(m)
	if f != asked || f.Err != api.OK && all != nil {
		t.Errorf("segment %d: %v comes, not %v", k, f, asked)
	}
	if f.Err == api.OK {
		wantList(t, "the same by other tokens", all, l)
	}
	return f.Err
}

// E2: any tokens that tell the entries.
func TestOtherTokens(t *testing.T) {
	for _, n := range []int{1, 8, 9, 100} {
		l := entries(n)
		m := trueManifest(t, l)
		for k, s := range m.Segments {
			m.Segments[k].Packed = plainly(joined(l[s.First : s.First+s.Count]...))
		}
		isVerified(t, "bytes alone", m, l)
	}
}

// E2: the text is not just Count entries, each with its length ahead.
func TestWrongEntries(t *testing.T) {
	ten := make([][]byte, 10)
	for i := range ten {
		ten[i] = []byte{byte(i + 1)}
	}
	m := trueManifest(t, ten)
	refused := func(what string, text []byte) {
		t.Helper()
		q := cloneOf(m)
		q.Segments[1].Packed = plainly(text)
		isNoSegment(t, what, q, 1, api.ErrForm)
		isNoEntry(t, what, q, 8, api.ErrForm)
		isNoEntry(t, what, q, 9, api.ErrForm)
		isRefused(t, what, q, api.ErrForm, 1)
		isEntry(t, what, q, 7, []byte{8})
	}
	refused("nothing", nil)
	refused("one entry", []byte{1, 9})
	refused("three entries", []byte{1, 9, 1, 10, 1, 11})
	refused("an empty one more", []byte{1, 9, 1, 10, 0})
	refused("a length more", []byte{1, 9, 1, 10, 1})
	refused("no second byte", []byte{1, 9, 1})
	refused("a length that is too great by one", []byte{1, 9, 2, 10})
	refused("a length that is too great by far", []byte{1, 9, 200, 10})
	refused("a length that is too small", []byte{1, 9, 0, 10})
	refused("the first one takes all", []byte{3, 9, 1, 10})
	refused("the first one takes more", []byte{4, 9, 1, 10})
	refused("nine empty ones", make([]byte, 9))
	refused("4000 empty ones", make([]byte, 4000))
	for _, length := range []int{201, 202, 255} {
		b := bytes.Repeat([]byte{7}, length)
		refused(fmt.Sprint("the first one has ", length), joined(b, []byte{10}))
		refused(fmt.Sprint("the last one has ", length), joined([]byte{9}, b))
	}
}

// E2: other entries that are written as they must be: they are told, but they
// are not the root's.
func TestOtherEntries(t *testing.T) {
	l := entries(20)
	m := trueManifest(t, l)
	for _, other := range [][][]byte{
		{nil, nil, nil, nil},
		{[]byte(strings.Repeat("x", 200)), {}, {1}, []byte(strings.Repeat("y", 200))},
		{l[17], l[16], l[18], l[19]},
	} {
		q := cloneOf(m)
		q.Segments[2].Packed = packed(t, joined(other...))
		isSegment(t, "others", q, 2, other)
		isEntry(t, "others", q, 17, other[1])
		isRefused(t, "others", q, api.ErrProof, 0)
		q.Head.Root = trueRoot(slices.Concat(l[:16], other))
		isVerified(t, "others, with their root", q, slices.Concat(l[:16], other))
	}
	q := cloneOf(m)
	q.Segments[0].Packed, q.Segments[1].Packed = q.Segments[1].Packed, q.Segments[0].Packed
	isRefused(t, "two segments in each other's place", q, api.ErrProof, 0)
}

// E2: the root is not the entries'; segments and entries are told without it.
func TestWrongRoot(t *testing.T) {
	for _, n := range []int{0, 1, 8, 20, 100} {
		l := entries(n)
		m := trueManifest(t, l)
		root := m.Head.Root
		wrong := [][]byte{nil, {}, root[:31], append(bytes.Clone(root), 0), make([]byte, 32), trueRoot(entries(n + 1))}
		for i := range root {
			b := bytes.Clone(root)
			b[i] ^= 1
			wrong = append(wrong, b)
		}
		for _, b := range wrong {
			q := cloneOf(m)
			q.Head.Root = b
			isRefused(t, fmt.Sprintf("%x", b), q, api.ErrProof, 0)
			if n > 0 {
				isSegment(t, "under a wrong root", q, 0, l[:min(8, n)])
				isEntry(t, "under a wrong root", q, n-1, l[n-1])
			}
		}
	}
}

// E2: the first segment that is wrong is told, whatever is wrong with later
// ones, and ahead of a wrong root; a wrong number of segments ahead of them.
func TestWhichErrorIsTold(t *testing.T) {
	m := trueManifest(t, entries(30))
	m.Head.Root[0]++
	isRefused(t, "the root", m, api.ErrProof, 0)
	m.Segments[3].First++
	isRefused(t, "segment 3", m, api.ErrFit, 3)
	m.Segments[2].Packed = []byte{0, 2, 0, 5, 5}
	isRefused(t, "segment 2", m, api.ErrForm, 2)
	m.Segments[1].Packed = []byte{255, 0}
	isRefused(t, "segment 1", m, api.ErrMuch, 1)
	isEntry(t, "segment 0", m, 7, entry(7))
	isNoEntry(t, "segment 1", m, 8, api.ErrMuch)
	isNoEntry(t, "segment 2", m, 16, api.ErrForm)
	isNoEntry(t, "segment 3", m, 24, api.ErrFit)
	m.Segments[1].Count++
	isRefused(t, "segment 1, which does not fit", m, api.ErrFit, 1)
	isNoSegment(t, "segment 1, which does not fit", m, 1, api.ErrFit)
	m.Segments = m.Segments[:3]
	isRefused(t, "too few", m, api.ErrMany, 0)
	isNoSegment(t, "too few", m, 3, api.ErrNone)
}
