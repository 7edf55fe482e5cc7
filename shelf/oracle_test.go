package shelf

import (
	"bytes"
	"crypto/sha256"
	"fmt"
	"slices"
	"strings"
	"testing"

	"yearbook/api"
	"yearbook/pack"
)

// sizes are those around whole segments, and around MaxLeaves.
var sizes = []int{0, 1, 2, 3, 7, 8, 9, 10, 15, 16, 17, 23, 24, 25, 31, 32, 33, 63, 64, 65, 95, 96, 97, 98, 99, 100}

// entry answers the i-th of entries that are unlike but for the empty ones, of
// many lengths, 0 and 200 among them.
func entry(i int) []byte {
	switch i % 8 {
	case 3:
		return nil
	case 5:
		return []byte(strings.Repeat(fmt.Sprint("long ", i, " "), 40)[:200])
	}
	return []byte(strings.Repeat("entry ", i%4) + fmt.Sprint(i))
}

func entries(n int) [][]byte {
	var l [][]byte
	for i := range n {
		l = append(l, entry(i))
	}
	return l
}

// kindsOfEntries are lists of entries that are all alike, or of one length.
func kindsOfEntries(n int) [][][]byte {
	var unlike [][]byte
	for i := range n {
		d := sha256.Sum256([]byte{byte(i)})
		unlike = append(unlike, bytes.Repeat(d[:], 7)[:200])
	}
	return [][][]byte{
		entries(n),
		unlike,
		slices.Repeat([][]byte{{}}, n),
		slices.Repeat([][]byte{{0}}, n),
		slices.Repeat([][]byte{bytes.Repeat([]byte{200}, 200)}, n),
	}
}

func digest(parts ...[]byte) []byte {
	d := sha256.Sum256(slices.Concat(parts...))
	return d[:]
}

// trueRoot puts neighbours together, level by level; a last one without a
// neighbour goes up.
func trueRoot(l [][]byte) []byte {
	var level [][]byte
	for _, b := range l {
		level = append(level, digest([]byte{0}, b))
	}
	if len(l) == 0 {
		return digest()
	}
	for len(level) > 1 {
		var up [][]byte
		for pair := range slices.Chunk(level, 2) {
			if len(pair) == 1 {
				up = append(up, pair[0])
				continue
			}
			up = append(up, digest([]byte{1}, pair[0], pair[1]))
		}
		level = up
	}
	return level[0]
}

// joined answers the entries of l, each with its length ahead.
func joined(l ...[]byte) []byte {
	s := ""
	for _, b := range l {
		s += string([]byte{byte(len(b))}) + string(b)
	}
	return []byte(s)
}

func packed(t *testing.T, text []byte) []byte {
	t.Helper()
	b, err := pack.Pack(text)
	if err != api.OK {
		t.Fatal(err)
	}
	return b
}

// plainly packs text as bytes alone, whatever stood ahead.
func plainly(text []byte) []byte {
	out := []byte{byte(len(text) / 256), byte(len(text) % 256)}
	for eight := range slices.Chunk(text, 8) {
		out = append(append(out, 0), eight...)
	}
	return out
}

// trueManifest gives each entry to its segment, one by one.
func trueManifest(t *testing.T, l [][]byte) api.Manifest {
	t.Helper()
	m := api.Manifest{Head: api.Head{Size: len(l), Root: trueRoot(l)}}
	texts := map[int][]byte{}
	for i, b := range l {
		k := i / 8
		if i%8 == 0 {
			m.Segments = append(m.Segments, api.Segment{First: i})
		}
		m.Segments[k].Count++
		texts[k] = append(texts[k], joined(b)...)
	}
	for k := range m.Segments {
		m.Segments[k].Packed = packed(t, texts[k])
	}
	return m
}

// cloneOf answers m in memory of its own.
func cloneOf(m api.Manifest) api.Manifest {
	m.Head.Root = bytes.Clone(m.Head.Root)
	m.Segments = slices.Clone(m.Segments)
	for k := range m.Segments {
		m.Segments[k].Packed = bytes.Clone(m.Segments[k].Packed)
	}
	return m
}

func wantBytes(t *testing.T, what string, got, asked []byte) {
	t.Helper()
	if !bytes.Equal(got, asked) {
		t.Errorf("%s: %x comes, not %x", what, got, asked)
	}
}

func wantList(t *testing.T, what string, got, asked [][]byte) {
	t.Helper()
	if !slices.EqualFunc(got, asked, bytes.Equal) {
		t.Errorf("%s: %x comes, not %x", what, got, asked)
	}
}

func wantManifest(t *testing.T, what string, got, asked api.Manifest) {
	t.Helper()
	if told(got) != told(asked) {
		t.Errorf("%s: %s comes, not %s", what, told(got), told(asked))
	}
}

func told(m api.Manifest) string {
	return fmt.Sprintf("%d %x %x", m.Head.Size, m.Head.Root, m.Segments)
}

func isSegment(t *testing.T, what string, m api.Manifest, k int, asked [][]byte) {
	t.Helper()
	l, err := Segment(m, k)
	if err != api.OK {
		t.Errorf("%s: errno %d comes of segment %d", what, err, k)
		return
	}
	wantList(t, what, l, asked)
}

func isNoSegment(t *testing.T, what string, m api.Manifest, k int, asked api.Errno) {
	t.Helper()
	if l, err := Segment(m, k); l != nil || err != asked {
		t.Errorf("%s: %x and errno %d come of segment %d, not errno %d", what, l, err, k, asked)
	}
}

func isEntry(t *testing.T, what string, m api.Manifest, i int, asked []byte) {
	t.Helper()
	b, err := Entry(m, i)
	if err != api.OK {
		t.Errorf("%s: errno %d comes of entry %d", what, err, i)
		return
	}
	wantBytes(t, what, b, asked)
}

func isNoEntry(t *testing.T, what string, m api.Manifest, i int, asked api.Errno) {
	t.Helper()
	if b, err := Entry(m, i); b != nil || err != asked {
		t.Errorf("%s: %x and errno %d come of entry %d, not errno %d", what, b, err, i, asked)
	}
}

func isVerified(t *testing.T, what string, m api.Manifest, asked [][]byte) {
	t.Helper()
	l, f := Verify(m)
	if f != (api.Fault{}) {
		t.Errorf("%s: fault %v comes", what, f)
		return
	}
	wantList(t, what, l, asked)
}

func isRefused(t *testing.T, what string, m api.Manifest, err api.Errno, at int) {
	t.Helper()
	if l, f := Verify(m); l != nil || f != (api.Fault{Err: err, At: at}) {
		t.Errorf("%s: %x and fault %v come, not errno %d at %d", what, l, f, err, at)
	}
}
