package fleet

import (
	"bytes"
	"slices"

	"yearbook/api"
	"yearbook/book"
	"yearbook/shelf"
	"yearbook/tree"
)

// Show answers entry i of shard k, and what shows it under the book's head.
func Show(f api.Fleet, k, i int) (api.Shown, api.Errno) {
	if k < 0 || k >= len(f.Shards) {
		return api.Shown{}, api.ErrNone
	}
	row := slices.IndexFunc(f.Book, func(r api.Record) bool {
		return r.Shard == k
	})
	if row < 0 {
		return api.Shown{}, api.ErrShut
	}
	entries, err := entriesOf(f.Shards[k])
	if err != api.OK {
		return api.Shown{}, err
	}
	path, fault := tree.Path(entries, i)
	if fault.Err != api.OK {
		return api.Shown{}, fault.Err
	}
	bookPath, fault := book.Path(f.Book, row)
	if fault.Err != api.OK {
		return api.Shown{}, fault.Err
	}
	// A book that has a path has a head.
	bookHead, _ := book.Head(f.Book)
	return api.Shown{
		Entry: bytes.Clone(entries[i]), Place: i, Shard: k, Path: path,
		Record: copyOfRecord(f.Book[row]), Row: row, BookPath: bookPath, BookHead: bookHead,
	}, api.OK
}

// entriesOf answers the entries of s, which may be Retired.
func entriesOf(s api.Shard) ([][]byte, api.Errno) {
	if s.State != api.Retired {
		return s.Entries, api.OK
	}
	l, fault := shelf.Verify(s.Manifest)
	return l, fault.Err
}

func copyOfRecord(r api.Record) api.Record {
	r.Head = copyOf(r.Head)
	return r
}

// Check tells whether s shows its entry under h, the book's head.
func Check(s api.Shown, h api.Head) bool {
	row, err := book.Bytes(s.Record)
	if err != api.OK {
		return false
	}
	return s.Record.Shard == s.Shard && isHead(s.BookHead, h) &&
		tree.Stands(s.Record.Head, s.Entry, s.Place, s.Path) &&
		tree.Stands(h, row, s.Row, s.BookPath)
}

func isHead(a, b api.Head) bool {
	return a.Size == b.Size && bytes.Equal(a.Root, b.Root)
}
