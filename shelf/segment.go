package shelf

import (
	"bytes"

	"yearbook/api"
	"yearbook/pack"
)

func isSize(n int) bool {
	return n >= 0 && n <= api.MaxLeaves
}

// segmentsFor answers how many segments a log of size entries has.
func segmentsFor(size int) int {
	return (size + api.PerSegment - 1) / api.PerSegment
}

// countFrom answers how many entries the segment has that begins at first, of
// a log of size entries: none, or less, if first is behind them.
func countFrom(first, size int) int {
	return min(api.PerSegment, size-first)
}

// fits tells whether s stands where segment k of a log of size entries must.
// The bound of k keeps what it is multiplied to from wrapping round.
func fits(s api.Segment, k, size int) bool {
	return isSize(size) && k <= api.MaxLeaves && s.First == k*api.PerSegment &&
		s.Count >= 1 && s.Count == countFrom(s.First, size)
}

// segments answers the segments of l, with which nothing is wrong.
func segments(l [][]byte) []api.Segment {
	var out []api.Segment
	for first := 0; first < len(l); first += api.PerSegment {
		count := countFrom(first, len(l))
		// So few entries never pass MaxPlain.
		packed, _ := pack.Pack(writeEntries(l[first : first+count]))
		out = append(out, api.Segment{First: first, Count: count, Packed: packed})
	}
	return out
}

// writeEntries answers the entries of l, each behind its length.
func writeEntries(l [][]byte) []byte {
	var out []byte
	for _, b := range l {
		out = append(out, byte(len(b)))
		out = append(out, b...)
	}
	return out
}

// readEntries reads what writeEntries wrote; false, if text is not just count
// entries.
func readEntries(text []byte, count int) ([][]byte, bool) {
	l := make([][]byte, 0, count)
	for range count {
		if len(text) == 0 {
			return nil, false
		}
		size, rest := int(text[0]), text[1:]
		if size > api.MaxLeaf || size > len(rest) {
			return nil, false
		}
		// Entries of one answer share no memory, so each is a copy.
		l = append(l, bytes.Clone(rest[:size]))
		text = rest[size:]
	}
	return l, len(text) == 0
}
