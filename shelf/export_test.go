package shelf

import (
	"bytes"
	"fmt"
	"slices"
	"strings"
	"testing"

	"yearbook/api"
)

// E1: head and segments, of all sizes and kinds of entries.
func TestExportOfManyLogs(t *testing.T) {
	for _, n := range sizes {
		for kind, l := range kindsOfEntries(n) {
			m, f := Export(l)
			if f != (api.Fault{}) {
				t.Errorf("%d of kind %d: fault %v comes", n, kind, f)
			}
			wantManifest(t, fmt.Sprintf("%d of kind %d", n, kind), m, trueManifest(t, l))
		}
	}
}

// E1: byte by byte, as the chapter tells it.
func TestExportByHand(t *testing.T) {
	m, _ := Export(nil)
	wantManifest(t, "no entries", m, api.Manifest{Head: api.Head{Root: digest()}})

	m, _ = Export([][]byte{{}})
	wantManifest(t, "an empty entry", m, api.Manifest{
		Head:     api.Head{Size: 1, Root: digest([]byte{0})},
		Segments: []api.Segment{{First: 0, Count: 1, Packed: []byte{0, 1, 0, 0}}},
	})

	m, _ = Export([][]byte{[]byte("ab"), {7}})
	wantManifest(t, "two entries", m, api.Manifest{
		Head:     api.Head{Size: 2, Root: digest([]byte{1}, digest([]byte("\x00ab")), digest([]byte{0, 7}))},
		Segments: []api.Segment{{First: 0, Count: 2, Packed: []byte{0, 5, 0, 2, 'a', 'b', 1, 7}}},
	})

	m, _ = Export([][]byte{bytes.Repeat([]byte{200}, 200)})
	wantBytes(t, "200 bytes, their length too", m.Segments[0].Packed, []byte{0, 201, 14, 200, 252, 0, 252, 0, 252, 0, 200, 200})
}

// E1: how many segments there are, and where they begin.
func TestExportOfWholeSegments(t *testing.T) {
	for n := range 101 {
		m, _ := Export(entries(n))
		var first, count []int
		for _, s := range m.Segments {
			first, count = append(first, s.First), append(count, s.Count)
		}
		var askedFirst, askedCount []int
		for left := n; left > 0; left -= 8 {
			askedFirst, askedCount = append(askedFirst, n-left), append(askedCount, min(left, 8))
		}
		if !slices.Equal(first, askedFirst) || !slices.Equal(count, askedCount) {
			t.Errorf("%d entries: %v and %v come", n, first, count)
		}
	}
}

// E1: what Wrong says of the entries.
func TestExportOfWrongLogs(t *testing.T) {
	long := []byte(strings.Repeat("x", 201))
	with := func(n int, at ...int) [][]byte {
		l := entries(n)
		for _, i := range at {
			l[i] = long
		}
		return l
	}
	for _, c := range []struct {
		what string
		l    [][]byte
		err  api.Errno
		at   int
	}{
		{"101 entries", entries(101), api.ErrMany, 0},
		{"1000 entries", entries(1000), api.ErrMany, 0},
		{"101 entries, one of them long", with(101, 50), api.ErrMany, 0},
		{"the only one is long", with(1, 0), api.ErrMuch, 0},
		{"the first one is long", with(9, 0), api.ErrMuch, 0},
		{"two are long", with(20, 8, 17), api.ErrMuch, 8},
		{"the last one is long", with(100, 99), api.ErrMuch, 99},
		{"one has 256 bytes", [][]byte{{1}, make([]byte, 256)}, api.ErrMuch, 1},
	} {
		m, f := Export(c.l)
		wantManifest(t, c.what, m, api.Manifest{})
		if f != (api.Fault{Err: c.err, At: c.at}) {
			t.Errorf("%s: fault %v comes", c.what, f)
		}
	}
}
