package book

import (
	"fmt"
	"slices"
	"testing"

	"yearbook/api"
	"yearbook/tree"
)

// books answers books of all sizes: of unlike records, and of one again and
// again.
func books() [][]api.Record {
	var out [][]api.Record
	right := rightRecords()
	for n := range 9 {
		out = append(out, right[:n:n], right[len(right)-n:], slices.Repeat(right[3:4], n))
	}
	return out
}

// F2: how many records there are, and the root of their bytes.
func TestHead(t *testing.T) {
	for _, l := range books() {
		h, f := Head(l)
		if h.Size != len(l) || f != (api.Fault{}) {
			t.Errorf("%d records: size %d and fault %v come", len(l), h.Size, f)
		}
		wantBytes(t, fmt.Sprint(len(l), " records"), h.Root, trueRoot(trueLeaves(t, l)))
	}
}

// F2: of no records the root is the digest of nothing, of one its leaf's.
func TestHeadOfFew(t *testing.T) {
	h, _ := Head(nil)
	wantBytes(t, "no records", h.Root, digest())
	r := record(7, 70000, 1000000, 100)
	h, _ = Head([]api.Record{r})
	wantBytes(t, "one record", h.Root, digest([]byte{0, 7, 1, 17, 112, 15, 66, 64, 100}, r.Head.Root))
}

// F2: each row's path, and that it shows the row.
func TestPath(t *testing.T) {
	for _, l := range books() {
		rows := trueLeaves(t, l)
		head := api.Head{Size: len(rows), Root: trueRoot(rows)}
		for i := range l {
			what := fmt.Sprintf("row %d of %d", i, len(l))
			p, f := Path(l, i)
			if f != (api.Fault{}) {
				t.Errorf("%s: fault %v comes", what, f)
			}
			wantList(t, what, p, truePath(rows, i))
			if !tree.Stands(head, rows[i], i, p) {
				t.Errorf("%s: it is not shown", what)
			}
		}
	}
}

// F2: what each number of first rows grew to, and that it is shown.
func TestGrows(t *testing.T) {
	for _, l := range books() {
		rows := trueLeaves(t, l)
		now := api.Head{Size: len(rows), Root: trueRoot(rows)}
		for m := 1; m <= len(l); m++ {
			what := fmt.Sprintf("%d of %d", m, len(l))
			p, f := Grows(l, m)
			if f != (api.Fault{}) {
				t.Errorf("%s: fault %v comes", what, f)
			}
			wantList(t, what, p, trueProof(rows, m, true))
			if !tree.Grew(api.Head{Size: m, Root: trueRoot(rows[:m])}, now, p) {
				t.Errorf("%s: it is not shown", what)
			}
		}
	}
}

// F2: a row that there is not, a number of rows that is not from one to all.
func TestWrongNumbers(t *testing.T) {
	for _, l := range books() {
		for _, n := range numbersAround(len(l)) {
			noRow, noNumber := api.Fault{Err: api.ErrNone}, api.Fault{Err: api.ErrRange}
			if p, f := Path(l, n); (n < 0 || n >= len(l)) && (p != nil || f != noRow) {
				t.Errorf("row %d of %d: %x and fault %v come", n, len(l), p, f)
			}
			if p, f := Grows(l, n); (n < 1 || n > len(l)) && (p != nil || f != noNumber) {
				t.Errorf("%d of %d: %x and fault %v come", n, len(l), p, f)
			}
		}
	}
}

// F2: more records than there are shards, told ahead of what is wrong with them.
func TestTooManyRecords(t *testing.T) {
	right := rightRecords()
	for _, n := range []int{9, 10, 16, 100, 101, 1000} {
		l := slices.Repeat(right, 1+n/len(right))[:n]
		isNoBook(t, fmt.Sprint(n), l, api.ErrMany, 0)
		for at := range min(n, 12) {
			wrong := slices.Clone(l)
			wrong[at] = record(8, 0, 1, 0)
			isNoBook(t, fmt.Sprint(n), wrong, api.ErrMany, 0)
		}
		isNoBook(t, fmt.Sprint(n, " of noughts"), make([]api.Record, n), api.ErrMany, 0)
	}
}

// F2: a wrong record, wherever it stands, is told ahead of a number of rows
// that is wrong.
func TestWrongRecord(t *testing.T) {
	for n := 1; n <= 8; n++ {
		for at := range n {
			for _, r := range wrongRange() {
				l := slices.Clone(rightRecords()[:n])
				l[at] = r
				isNoBook(t, told(r), l, api.ErrRange, at)
			}
			for _, root := range noDigests() {
				l := slices.Clone(rightRecords()[:n])
				l[at].Head.Root = root
				isNoBook(t, told(l[at]), l, api.ErrForm, at)
			}
		}
	}
}

// F2: of several wrong records the first is told, whatever is wrong with the
// others.
func TestFirstWrongRecord(t *testing.T) {
	number, root := record(1, 5, 5, 0), withRoot(record(1, 0, 5, 0), digest()[:31])
	for first := range 8 {
		for later := first + 1; later < 8; later++ {
			l := slices.Clone(rightRecords()[:8])
			l[first], l[later] = number, root
			isNoBook(t, "a number, and then a root", l, api.ErrRange, first)
			l[first], l[later] = root, number
			isNoBook(t, "a root, and then a number", l, api.ErrForm, first)
		}
	}
}

// F2: records need not follow each other: a book is what its records are.
func TestRecordsInAnyOrder(t *testing.T) {
	l := []api.Record{record(7, 500, 600, 3), record(0, 0, 10, 3), record(7, 500, 600, 3), record(0, 5, 15, 0)}
	h, f := Head(l)
	if h.Size != 4 || f != (api.Fault{}) {
		t.Errorf("size %d and fault %v come", h.Size, f)
	}
	wantBytes(t, "any order", h.Root, trueRoot(trueLeaves(t, l)))
	slices.Reverse(l)
	h, _ = Head(l)
	wantBytes(t, "the other order", h.Root, trueRoot(trueLeaves(t, l)))
}
