package book

import (
	"bytes"

	"yearbook/api"
)

// Where the fields of a record begin in its bytes, and how many there are. A
// shard and a size fit a byte; three bytes hold each time up to MaxTime.
const (
	shardAt   = 0
	fromAt    = shardAt + 1
	toAt      = fromAt + 3
	sizeAt    = toAt + 3
	rootAt    = sizeAt + 1
	recordEnd = rootAt + api.Digest
)

// Wrong answers what keeps r from being a record of the book.
func Wrong(r api.Record) api.Errno {
	if !inRange(r) {
		return api.ErrRange
	}
	if len(r.Head.Root) != api.Digest {
		return api.ErrForm
	}
	return api.OK
}

// inRange tells whether each number of r is one that a record may have.
func inRange(r api.Record) bool {
	return r.Shard >= 0 && r.Shard < api.MaxShards &&
		r.From >= 0 && r.From < r.To && r.To <= api.MaxTime &&
		r.Head.Size >= 0 && r.Head.Size <= api.MaxLeaves
}

// Bytes answers r as the book has it.
func Bytes(r api.Record) ([]byte, api.Errno) {
	if err := Wrong(r); err != api.OK {
		return nil, err
	}
	b := make([]byte, recordEnd)
	b[shardAt] = byte(r.Shard)
	putTime(b[fromAt:toAt], r.From)
	putTime(b[toAt:sizeAt], r.To)
	b[sizeAt] = byte(r.Head.Size)
	copy(b[rootAt:], r.Head.Root)
	return b, api.OK
}

// Parse answers the record whose bytes b are.
func Parse(b []byte) (api.Record, api.Errno) {
	if len(b) != recordEnd {
		return api.Record{}, api.ErrForm
	}
	r := api.Record{
		Shard: int(b[shardAt]),
		From:  timeOf(b[fromAt:toAt]),
		To:    timeOf(b[toAt:sizeAt]),
		Head:  api.Head{Size: int(b[sizeAt]), Root: bytes.Clone(b[rootAt:])},
	}
	if err := Wrong(r); err != api.OK {
		return api.Record{}, err
	}
	return r, api.OK
}

// putTime fills b with t, the high bytes first.
func putTime(b []byte, t int) {
	for i := len(b) - 1; i >= 0; i-- {
		b[i] = byte(t)
		t >>= 8
	}
}

// timeOf reads what putTime filled.
func timeOf(b []byte) int {
	t := 0
	for _, x := range b {
		t = t<<8 | int(x)
	}
	return t
}
