package book

import (
	"bytes"
	"crypto/sha256"
	"encoding/hex"
	"fmt"
	"slices"
	"testing"

	"yearbook/api"
)

func digest(parts ...[]byte) []byte {
	d := sha256.Sum256(slices.Concat(parts...))
	return d[:]
}

// record answers a record with which nothing is wrong, if its numbers are in
// range.
func record(shard, from, to, size int) api.Record {
	root := digest([]byte(fmt.Sprint(shard, from, to, size)))
	return api.Record{Shard: shard, From: from, To: to, Head: api.Head{Size: size, Root: root}}
}

// rightRecords have each number at its edges, and numbers all of whose bytes
// are unlike.
func rightRecords() []api.Record {
	noughts, ones := record(2, 3, 4, 5), record(2, 3, 4, 5)
	noughts.Head.Root = make([]byte, 32)
	ones.Head.Root = bytes.Repeat([]byte{255}, 32)
	return []api.Record{
		record(0, 0, 1, 0),
		record(0, 0, 1000000, 0),
		record(7, 0, 1000000, 100),
		record(7, 999999, 1000000, 100),
		record(1, 0, 999999, 1),
		record(6, 1, 2, 99),
		record(3, 254, 255, 20),
		record(3, 255, 256, 20),
		record(3, 256, 257, 20),
		record(4, 65534, 65535, 33),
		record(4, 65535, 65536, 33),
		record(4, 65536, 65537, 33),
		record(5, 0x010203, 0x040506, 7),
		record(5, 0x0a0b0c, 0x0d0e0f, 64),
		noughts,
		ones,
	}
}

// wrongRange are records of which one number is wrong, or several are.
func wrongRange() []api.Record {
	const least, most = -1 << 63, 1<<63 - 1
	return []api.Record{
		record(-1, 0, 1, 0), record(8, 0, 1, 0), record(256, 0, 1, 0), record(least, 0, 1, 0), record(most, 0, 1, 0),
		record(1, -1, 1, 0), record(1, -2, -1, 0), record(1, least, 1, 0), record(1, least, most, 0),
		record(1, 0, 0, 0), record(1, 5, 5, 0), record(1, 6, 5, 0), record(1, 5, 4, 0), record(1, 1000000, 1000000, 0),
		record(1, 5, -1, 0), record(1, 5, least, 0), record(1, most, 5, 0), record(1, 1000000, 5, 0),
		record(1, 0, 1000001, 0), record(1, 1000000, 1000001, 0), record(1, 1000001, 1000002, 0), record(1, 0, 1<<24+1, 0), record(1, 0, most, 0),
		record(1, 0, 1, -1), record(1, 0, 1, 101), record(1, 0, 1, 256), record(1, 0, 1, least), record(1, 0, 1, most),
		record(-1, -1, -1, -1), record(8, 1000001, 1000001, 101),
	}
}

// noDigests are roots of other lengths than a digest's.
func noDigests() [][]byte {
	return [][]byte{nil, {}, {1}, digest()[:31], append(digest(), 0), slices.Concat(digest(), digest()), make([]byte, 200)}
}

// withRoot answers r with another root.
func withRoot(r api.Record, root []byte) api.Record {
	r.Head.Root = root
	return r
}

// trueBytes writes r's numbers in hexadecimal, as many digits as they must have.
func trueBytes(t *testing.T, r api.Record) []byte {
	t.Helper()
	b, err := hex.DecodeString(fmt.Sprintf("%02x%06x%06x%02x%x", r.Shard, r.From, r.To, r.Head.Size, r.Head.Root))
	if err != nil {
		t.Fatal(err)
	}
	return b
}

func trueLeaves(t *testing.T, l []api.Record) [][]byte {
	t.Helper()
	var out [][]byte
	for _, r := range l {
		out = append(out, trueBytes(t, r))
	}
	return out
}

// levels answers the leaves' digests, and above them those of neighbours put
// together; a last one without a neighbour goes up.
func levels(l [][]byte) [][][]byte {
	var level [][]byte
	for _, b := range l {
		level = append(level, digest([]byte{0}, b))
	}
	all := [][][]byte{level}
	for len(level) > 1 {
		var up [][]byte
		for pair := range slices.Chunk(level, 2) {
			if len(pair) == 1 {
				up = append(up, pair[0])
				continue
			}
			up = append(up, digest([]byte{1}, pair[0], pair[1]))
		}
		level = up
		all = append(all, level)
	}
	return all
}

func trueRoot(l [][]byte) []byte {
	if len(l) == 0 {
		return digest()
	}
	all := levels(l)
	return all[len(all)-1][0]
}

// truePath answers the neighbours of leaf i, level by level.
func truePath(l [][]byte, i int) [][]byte {
	var out [][]byte
	for _, level := range levels(l) {
		if i^1 < len(level) {
			out = append(out, level[i^1])
		}
		i /= 2
	}
	return out
}

// trueProof goes as RFC 6962 says.
func trueProof(l [][]byte, m int, whole bool) [][]byte {
	if m == len(l) {
		if whole {
			return nil
		}
		return [][]byte{trueRoot(l)}
	}
	k := 1
	for 2*k < len(l) {
		k *= 2
	}
	if m <= k {
		return append(trueProof(l[:k], m, whole), trueRoot(l[k:]))
	}
	return append(trueProof(l[k:], m-k, false), trueRoot(l[:k]))
}

func wantBytes(t *testing.T, what string, got, asked []byte) {
	t.Helper()
	if !bytes.Equal(got, asked) {
		t.Errorf("%s: %x comes, not %x", what, got, asked)
	}
}

func wantList(t *testing.T, what string, got, asked [][]byte) {
	t.Helper()
	if !slices.EqualFunc(got, asked, bytes.Equal) {
		t.Errorf("%s: %x comes, not %x", what, got, asked)
	}
}

func told(r api.Record) string {
	return fmt.Sprintf("%d %d %d %d %x", r.Shard, r.From, r.To, r.Head.Size, r.Head.Root)
}

func wantRecord(t *testing.T, what string, got, asked api.Record) {
	t.Helper()
	if told(got) != told(asked) {
		t.Errorf("%s: %s comes, not %s", what, told(got), told(asked))
	}
}

func isNoRecord(t *testing.T, r api.Record, asked api.Errno) {
	t.Helper()
	if err := Wrong(r); err != asked {
		t.Errorf("%s: Wrong says %d, not %d", told(r), err, asked)
	}
	if b, err := Bytes(r); b != nil || err != asked {
		t.Errorf("%s: %x and errno %d come, not errno %d", told(r), b, err, asked)
	}
}

func isNotParsed(t *testing.T, b []byte, asked api.Errno) {
	t.Helper()
	r, err := Parse(b)
	if err != asked || r.Shard != 0 || r.From != 0 || r.To != 0 || r.Head.Size != 0 || r.Head.Root != nil {
		t.Errorf("%x: %s and errno %d come, not errno %d", b, told(r), err, asked)
	}
}

// isNoBook holds that each call on l tells the same fault, whatever number it
// has beside l.
func isNoBook(t *testing.T, what string, l []api.Record, err api.Errno, at int) {
	t.Helper()
	asked := api.Fault{Err: err, At: at}
	if h, f := Head(l); h.Size != 0 || h.Root != nil || f != asked {
		t.Errorf("%s: head %d %x and fault %v come, not %v", what, h.Size, h.Root, f, asked)
	}
	for _, n := range numbersAround(len(l)) {
		if p, f := Path(l, n); p != nil || f != asked {
			t.Errorf("%s: path %x and fault %v come of row %d, not %v", what, p, f, n, asked)
		}
		if p, f := Grows(l, n); p != nil || f != asked {
			t.Errorf("%s: proof %x and fault %v come of %d, not %v", what, p, f, n, asked)
		}
	}
}

// numbersAround answers all numbers up to n, and some beyond on both sides.
func numbersAround(n int) []int {
	out := []int{-1 << 63, -1 << 31, -2, -1, n + 1, n + 2, 1 << 31, 1<<63 - 1}
	for i := range n + 1 {
		out = append(out, i)
	}
	return out
}
