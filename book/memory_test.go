package book

import (
	"bytes"
	"fmt"
	"math/rand/v2"
	"slices"
	"testing"

	"yearbook/api"
)

// roomy answers b with spare room behind it, full of fill.
func roomy(b []byte, fill byte) []byte {
	return append(bytes.Clone(b), bytes.Repeat([]byte{fill}, 50)...)[:len(b)]
}

// roomyBook answers l in memory of its own, with spare room behind the list and
// behind each root: wrong records, or right ones.
func roomyBook(l []api.Record, fill byte) []api.Record {
	var out []api.Record
	for _, r := range l {
		out = append(out, withRoot(r, roomy(r.Head.Root, fill)))
	}
	for range 3 {
		out = append(out, withRoot(record(int(fill), 0, 1, 0), roomy(digest(), fill)))
	}
	return out[:len(l)]
}

// memoryOf answers the roots of l, and of the room behind it, each with its
// spare room.
func memoryOf(l []api.Record) [][]byte {
	var out [][]byte
	for _, r := range l[:cap(l)] {
		out = append(out, r.Head.Root[:cap(r.Head.Root)])
	}
	return out
}

// shape tells all of l but its roots, which are memoryOf's.
func shape(l []api.Record) string {
	out := fmt.Sprint(len(l))
	for _, r := range l[:cap(l)] {
		out += fmt.Sprint(" ", r.Shard, r.From, r.To, r.Head.Size, len(r.Head.Root))
	}
	return out
}

func cloneAll(l [][]byte) [][]byte {
	var out [][]byte
	for _, b := range l {
		out = append(out, bytes.Clone(b))
	}
	return out
}

// wholeList answers all lists of bytes of l, with their spare room.
func wholeList(l [][]byte) [][]byte {
	var out [][]byte
	for _, b := range l[:cap(l)] {
		out = append(out, b[:cap(b)])
	}
	return out
}

func scribble(memory [][]byte) {
	for _, b := range memory {
		for i := range b {
			b[i] ^= 0xa5
		}
	}
}

// areApart holds that none of l shares memory with another: when one of them
// changes, the others stay.
func areApart(t *testing.T, what string, l [][]byte) {
	t.Helper()
	for i := range l {
		before := cloneAll(l)
		scribble(l[i : i+1])
		for k := range l {
			if k != i && !bytes.Equal(l[k], before[k]) {
				t.Errorf("%s: list %d changes with %d", what, k, i)
			}
		}
	}
}

// call has a name, and answers all lists of bytes that it answers of a book.
type call struct {
	name string
	run  func(l []api.Record) [][]byte
}

func calls() []call {
	out := []call{
		{"Head", func(l []api.Record) [][]byte { h, _ := Head(l); return [][]byte{h.Root} }},
		{"Bytes", func(l []api.Record) [][]byte {
			var out [][]byte
			for _, r := range l {
				b, _ := Bytes(r)
				out = append(out, b)
			}
			return out
		}},
		{"Wrong", func(l []api.Record) [][]byte {
			var out []byte
			for _, r := range l {
				out = append(out, byte(Wrong(r)))
			}
			return [][]byte{out}
		}},
	}
	for n := -1; n <= 9; n++ {
		out = append(out,
			call{fmt.Sprint("Path of ", n), func(l []api.Record) [][]byte { p, _ := Path(l, n); return p }},
			call{fmt.Sprint("Grows of ", n), func(l []api.Record) [][]byte { p, _ := Grows(l, n); return p }})
	}
	return out
}

// Z2: of all that is handed records.
func TestMemoryOfRecords(t *testing.T) {
	wrong := rightRecords()[:5]
	wrong[3].Head.Root = wrong[3].Head.Root[:31]
	for _, l := range append(books(), wrong, rightRecords()[:9]) {
		for _, c := range calls() {
			tryCall(t, fmt.Sprintf("%s, %d records", c.name, len(l)), c, l)
		}
	}
}

func tryCall(t *testing.T, what string, c call, l []api.Record) {
	t.Helper()
	given := roomyBook(l, 1)
	memory, form := cloneAll(memoryOf(given)), shape(given)
	one := c.run(given)
	asked := cloneAll(one)
	other := c.run(roomyBook(l, 200))
	wantList(t, what+", other spare room", other, asked)
	scribble(wholeList(other))
	wantList(t, what+", what is handed in", memoryOf(given), memory)
	scribble(memoryOf(given))
	wantList(t, what+", when what was handed in changes", one, asked)
	scribble(memoryOf(given))
	areApart(t, what, wholeList(one))
	wantList(t, what+", when the answer changes", memoryOf(given), memory)
	if shape(given) != form {
		t.Errorf("%s: %s is left, not %s", what, shape(given), form)
	}
}

// Z2: of Parse.
func TestMemoryOfParse(t *testing.T) {
	for _, r := range append(rightRecords(), record(9, 0, 1, 0)) {
		b := roomy(trueBytes(t, r), 3)
		whole := bytes.Clone(b[:cap(b)])
		one, err := Parse(b)
		asked := withRoot(one, bytes.Clone(one.Head.Root))
		other, otherErr := Parse(roomy(trueBytes(t, r), 200))
		wantRecord(t, "other spare room", other, asked)
		if err != otherErr {
			t.Errorf("other spare room: errno %d comes, not %d", otherErr, err)
		}
		wantBytes(t, "what is handed in", b[:cap(b)], whole)
		scribble([][]byte{b[:cap(b)], other.Head.Root[:cap(other.Head.Root)]})
		wantRecord(t, "when what was handed in changes", one, asked)
		scribble([][]byte{b[:cap(b)], one.Head.Root[:cap(one.Head.Root)]})
		wantBytes(t, "when the answer changes", b[:cap(b)], whole)
	}
}

// Z3: nil and what has no entries are the same.
func TestNothing(t *testing.T) {
	for _, l := range [][]api.Record{nil, {}, rightRecords()[:0]} {
		h, f := Head(l)
		if h.Size != 0 || f != (api.Fault{}) {
			t.Errorf("no records: size %d and fault %v come", h.Size, f)
		}
		wantBytes(t, "no records", h.Root, digest())
		for _, n := range numbersAround(0) {
			if p, f := Path(l, n); p != nil || f != (api.Fault{Err: api.ErrNone}) {
				t.Errorf("no records: %x and fault %v come of row %d", p, f, n)
			}
			if p, f := Grows(l, n); p != nil || f != (api.Fault{Err: api.ErrRange}) {
				t.Errorf("no records: %x and fault %v come of %d", p, f, n)
			}
		}
	}
	isNotParsed(t, nil, api.ErrForm)
	isNotParsed(t, []byte{}, api.ErrForm)
	isNoBook(t, "no root", []api.Record{withRoot(record(1, 0, 1, 0), nil)}, api.ErrForm, 0)
	isNoBook(t, "an empty root", []api.Record{withRoot(record(1, 0, 1, 0), []byte{})}, api.ErrForm, 0)
}

// Z1, Z4: whatever is given, a call answers, and the same again; beside a fault
// nothing. What is told first of several that fit is what goes record by record.
func TestAnything(t *testing.T) {
	r := rand.New(rand.NewPCG(6, 6))
	for range 3000 {
		l := anyBook(r)
		n := r.IntN(12) - 1
		asked := trueFault(l)
		if asked.Err != api.OK {
			isNoBook(t, fmt.Sprint(l), l, asked.Err, asked.At)
			continue
		}
		h, f := Head(l)
		if f != asked || h.Size != len(l) {
			t.Errorf("%v: size %d and fault %v come", l, h.Size, f)
		}
		p, f := Path(l, n)
		again, fAgain := Path(l, n)
		if f != fAgain || (f.Err == api.OK) != (n >= 0 && n < len(l)) || f.Err != api.OK && p != nil {
			t.Errorf("%v: %x and fault %v come of row %d, then fault %v", l, p, f, n, fAgain)
		}
		wantList(t, "again", again, p)
	}
}

// anyBook answers records of which some may be wrong ones.
func anyBook(r *rand.Rand) []api.Record {
	right, wrong, roots := rightRecords(), wrongRange(), noDigests()
	var l []api.Record
	for range r.IntN(10) {
		one := right[r.IntN(len(right))]
		switch r.IntN(12) {
		case 0:
			one = wrong[r.IntN(len(wrong))]
		case 1:
			one.Head.Root = roots[r.IntN(len(roots))]
		case 2:
			one = withRoot(wrong[r.IntN(len(wrong))], roots[r.IntN(len(roots))])
		}
		l = append(l, one)
	}
	return l
}

// trueFault tells what is wrong with a book, its wrong records being known by
// their numbers.
func trueFault(l []api.Record) api.Fault {
	if len(l) > 8 {
		return api.Fault{Err: api.ErrMany}
	}
	for i, r := range l {
		known := func(other api.Record) bool { return told(withRoot(r, nil)) == told(withRoot(other, nil)) }
		if slices.ContainsFunc(wrongRange(), known) {
			return api.Fault{Err: api.ErrRange, At: i}
		}
		if len(r.Head.Root) != 32 {
			return api.Fault{Err: api.ErrForm, At: i}
		}
	}
	return api.Fault{}
}
