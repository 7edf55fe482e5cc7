package book

import (
	"slices"
	"testing"

	"yearbook/api"
)

// F1: what a record's bytes are, written out.
func TestBytesWrittenOut(t *testing.T) {
	root := digest([]byte("abc"))
	for _, c := range []struct {
		r     api.Record
		front []byte
	}{
		{record(0, 0, 1, 0), []byte{0, 0, 0, 0, 0, 0, 1, 0}},
		{record(7, 70000, 1000000, 100), []byte{7, 1, 17, 112, 15, 66, 64, 100}},
		{record(3, 300, 400, 20), []byte{3, 0, 1, 44, 0, 1, 144, 20}},
		{record(5, 0x010203, 0x040506, 7), []byte{5, 1, 2, 3, 4, 5, 6, 7}},
	} {
		b, err := Bytes(withRoot(c.r, root))
		if err != api.OK || len(b) != 40 {
			t.Errorf("%s: errno %d and %d bytes come", told(c.r), err, len(b))
		}
		wantBytes(t, told(c.r), b, slices.Concat(c.front, root))
	}
}

// F1: nothing is wrong with a record whose numbers are in range, up to the
// edges; and what is read from its bytes is it.
func TestRightRecords(t *testing.T) {
	for _, r := range rightRecords() {
		if err := Wrong(r); err != api.OK {
			t.Errorf("%s: Wrong says %d", told(r), err)
		}
		b, err := Bytes(r)
		if err != api.OK {
			t.Errorf("%s: errno %d comes", told(r), err)
		}
		wantBytes(t, told(r), b, trueBytes(t, r))
		back, err := Parse(trueBytes(t, r))
		if err != api.OK {
			t.Errorf("%s: errno %d comes of its bytes", told(r), err)
		}
		wantRecord(t, "read", back, r)
	}
}

// F1: all shards and sizes, and times of all lengths.
func TestAllNumbers(t *testing.T) {
	isSame := func(r api.Record) {
		t.Helper()
		b, err := Bytes(r)
		if err != api.OK {
			t.Errorf("%s: errno %d comes", told(r), err)
		}
		wantBytes(t, told(r), b, trueBytes(t, r))
		back, err := Parse(b)
		if err != api.OK {
			t.Errorf("%x: errno %d comes", b, err)
		}
		wantRecord(t, "read", back, r)
	}
	for shard := range 8 {
		for size := range 101 {
			isSame(record(shard, 10*shard, 10*shard+size+1, size))
		}
	}
	for from := 0; from < 1000000; from += 1009 {
		isSame(record(3, from, from+1, 4))
		isSame(record(3, from, 1000000, 4))
	}
}

// F1: a number that is too small or too great.
func TestWrongRange(t *testing.T) {
	for _, r := range wrongRange() {
		isNoRecord(t, r, api.ErrRange)
	}
}

// F1: a root that is no digest.
func TestWrongRoot(t *testing.T) {
	for _, root := range noDigests() {
		for _, r := range rightRecords() {
			isNoRecord(t, withRoot(r, root), api.ErrForm)
		}
	}
}

// F1: a wrong number is told ahead of a wrong root.
func TestWrongRangeFirst(t *testing.T) {
	for _, root := range noDigests() {
		for _, r := range wrongRange() {
			isNoRecord(t, withRoot(r, root), api.ErrRange)
		}
	}
}

// F1: bytes too few or too many, whatever stands in them.
func TestParseOtherLengths(t *testing.T) {
	wrong := slices.Repeat([]byte{255}, 200)
	for n := range 200 {
		if n == 40 {
			continue
		}
		isNotParsed(t, wrong[:n], api.ErrForm)
		isNotParsed(t, make([]byte, n), api.ErrForm)
		for _, r := range rightRecords() {
			isNotParsed(t, append(trueBytes(t, r), wrong...)[:n], api.ErrForm)
		}
	}
}

// F1: bytes of a record with which something is wrong.
func TestParseWrongRecords(t *testing.T) {
	for _, r := range []api.Record{
		record(8, 0, 1, 0), record(255, 0, 1, 0),
		record(1, 0, 0, 0), record(1, 5, 5, 0), record(1, 6, 5, 0), record(1, 0x010000, 0xffff, 0), record(1, 1000000, 1000000, 0),
		record(1, 0, 1000001, 0), record(1, 1000001, 1000002, 0), record(1, 0, 1<<24-1, 0),
		record(1, 0, 1, 101), record(1, 0, 1, 128), record(1, 0, 1, 255),
		record(255, 1<<24-1, 1<<24-1, 255),
	} {
		isNotParsed(t, trueBytes(t, r), api.ErrRange)
	}
	isNotParsed(t, make([]byte, 40), api.ErrRange)
	isNotParsed(t, slices.Repeat([]byte{255}, 40), api.ErrRange)
}

// F1: whatever bytes are read, they are those of their record; and those which
// are not read are no record's.
func TestWhatIsReadIsWritten(t *testing.T) {
	for _, r := range rightRecords() {
		for at := range 40 {
			for by := range 256 {
				b := trueBytes(t, r)
				b[at] ^= byte(by)
				back, err := Parse(b)
				if err != api.OK {
					isNotParsed(t, b, api.ErrRange)
					continue
				}
				again, err := Bytes(back)
				if err != api.OK {
					t.Errorf("%x: errno %d comes of what was read", b, err)
				}
				wantBytes(t, "read and written", again, b)
			}
		}
	}
}

// F1: each byte may be any that leaves the numbers in range, and no other.
func TestWhichTurnedBytesAreRead(t *testing.T) {
	for at := range 40 {
		for x := range 256 {
			b := trueBytes(t, record(1, 0x010203, 0x040506, 7))
			b[at] = byte(x)
			_, err := Parse(b)
			if (err == api.OK) != mayStand(at, x) || err != api.OK && err != api.ErrRange {
				t.Errorf("%d at %d: errno %d comes", x, at, err)
			}
		}
	}
}

// mayStand tells whether x may stand at that place in the bytes of the record
// (1, 0x010203, 0x040506, 7): From is below To while its first byte is 4 at
// most, or To's is 1 at least; To is not above MaxTime (0x0f4240) while its
// first byte is 15 at most.
func mayStand(at, x int) bool {
	switch at {
	case 0:
		return x < 8
	case 1:
		return x <= 4
	case 4:
		return x >= 1 && x <= 15
	case 7:
		return x <= 100
	}
	return true
}
