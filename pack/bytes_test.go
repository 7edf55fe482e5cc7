package pack

import (
	"bytes"
	"fmt"
	"math/rand/v2"
	"slices"
	"strings"
	"testing"

	"yearbook/api"
)

func isPacked(t *testing.T, what, s string, asked []byte) {
	t.Helper()
	b, err := Pack([]byte(s))
	wantErrno(t, what, err, api.OK)
	wantBytes(t, what, b, asked)
}

func isUnpacked(t *testing.T, what string, b []byte, asked string) {
	t.Helper()
	s, err := Unpack(b)
	wantErrno(t, what, err, api.OK)
	wantBytes(t, what, s, []byte(asked))
}

func isRefused(t *testing.T, what string, b []byte, asked api.Errno) {
	t.Helper()
	s, err := Unpack(b)
	if s != nil || err != asked {
		t.Errorf("%s: %d bytes and errno %d come, not errno %d", what, len(s), err, asked)
	}
}

// D2: how each text is written, and that it comes back.
func TestPackOfManyTexts(t *testing.T) {
	for i, s := range texts() {
		what := fmt.Sprintf("text %d, of %d bytes", i, len(s))
		b := written(len(s), trueTokens(s))
		isPacked(t, what, s, b)
		isUnpacked(t, what, b, s)
	}
}

// D2: byte by byte, as the chapter tells it.
func TestPackByHand(t *testing.T) {
	isPacked(t, "nothing", "", []byte{0, 0})
	isPacked(t, "one byte", "a", []byte{0, 1, 0, 'a'})
	isPacked(t, "a length and a byte behind it", "aaaab", []byte{0, 5, 2, 'a', 0, 0, 'b'})
	isPacked(t, "the document's example", "abcabcabcabc", []byte{0, 12, 8, 'a', 'b', 'c', 6 << 2, 2})
	isPacked(t, "seven", "abcdefg", []byte("\x00\x07\x00abcdefg"))
	isPacked(t, "eight", "abcdefgh", []byte("\x00\x08\x00abcdefgh"))
	isPacked(t, "nine", "abcdefghi", []byte("\x00\x09\x00abcdefgh\x00i"))
	isPacked(t, "sixteen", "abcdefghijklmnop", []byte("\x00\x10\x00abcdefgh\x00ijklmnop"))
	isPacked(t, "the eighth has a length", "abcdefgabcdefg", []byte("\x00\x0e\x80abcdefg\x10\x06"))
	isPacked(t, "the ninth has a length", "abcdefghabcd", []byte("\x00\x0c\x00abcdefgh\x01\x04\x07"))
	isPacked(t, "the greatest length", strings.Repeat("x", 67), []byte{0, 67, 2, 'x', 252, 0})
	isPacked(t, "two lengths", strings.Repeat("x", 100), []byte{0, 100, 6, 'x', 252, 0, 30 << 2, 0})
	isPacked(t, "a high byte", strings.Repeat("x", 300), []byte{1, 44, 62, 'x', 252, 0, 252, 0, 252, 0, 252, 0, 32 << 2, 0})
	far := "\xc0\xc1\xc2" + plain(1021)
	b, err := Pack([]byte(far + "\xc0\xc1\xc2"))
	wantErrno(t, "far", err, api.OK)
	wantBytes(t, "the greatest back", b[len(b)-3:], []byte{1, 3, 255})
}

// D2.
func TestPackOfMuch(t *testing.T) {
	for _, s := range []string{strings.Repeat("x", 4001), plain(4001), strings.Repeat("ab", 40000)} {
		b, err := Pack([]byte(s))
		if b != nil || err != api.ErrMuch {
			t.Errorf("%d bytes: %d bytes and errno %d come", len(s), len(b), err)
		}
	}
	isPacked(t, "as much as may be", plain(4000), written(4000, bytesOf(plain(4000))))
}

// D2: any tokens that fit, not only those that Tokens tells.
func TestUnpackOfAnyTokens(t *testing.T) {
	isUnpacked(t, "bytes that stood ahead", written(9, bytesOf("aaaaaaaaa")), "aaaaaaaaa")
	isUnpacked(t, "the farther one", written(11, behind("abc1abc2", stretch(3, 8))), "abc1abc2abc")
	isUnpacked(t, "the greatest of both", written(1090, behind(plain(1024), stretch(66, 1024))), plain(1024)+plain(66))
	isUnpacked(t, "just as much as may be", written(4000, behind(plain(3934), stretch(66, 1024))), trueText(behind(plain(3934), stretch(66, 1024))))
	r := rand.New(rand.NewPCG(7, 7))
	for range 200 {
		l := randomTokens(r, 1+r.IntN(150))
		s := trueText(l)
		isUnpacked(t, fmt.Sprint(l), written(len(s), l), s)
	}
}

// D2: no length at all, or one that tells too much, whatever is behind it.
func TestUnpackOfLengths(t *testing.T) {
	for _, b := range [][]byte{nil, {}, {0}, {1}, {15}, {16}, {255}} {
		isRefused(t, fmt.Sprint(b), b, api.ErrForm)
	}
	for size := range 1 << 16 {
		asked := api.ErrForm
		if size > 4000 {
			asked = api.ErrMuch
		}
		b := written(size, nil)
		if size > 0 {
			isRefused(t, fmt.Sprint(size, " told, none there"), b, asked)
		}
		isRefused(t, fmt.Sprint(size, " told, with something behind"), append(b, 7, 7, 7), asked)
	}
	isUnpacked(t, "no bytes", []byte{0, 0}, "")
	isUnpacked(t, "4000 bytes", written(4000, bytesOf(plain(4000))), plain(4000))
	isRefused(t, "4001 bytes", written(4001, bytesOf(plain(4001))), api.ErrMuch)
}

// D2: tokens whose text has fewer or more bytes than are told.
func TestUnpackOfOtherLengths(t *testing.T) {
	for _, l := range [][]api.Token{behind("a"), behind("abcdefgh"), behind("abcdefghi"), behind("a", stretch(3, 1)), behind("a", stretch(66, 1)), behind("abc", stretch(9, 3), api.Token{Byte: 5})} {
		n := len(trueText(l))
		isUnpacked(t, "just so", written(n, l), trueText(l))
		for _, size := range []int{n - 3, n - 2, n - 1, n + 1, n + 2, n + 3, n + 256, 4000} {
			if size >= 0 {
				isRefused(t, fmt.Sprint(size, " told of ", n), written(size, l), api.ErrForm)
			}
		}
	}
	// Too much for any text is no more than another form here.
	isRefused(t, "over 4000", written(4000, behind(plain(3999), stretch(3, 1))), api.ErrForm)
	isRefused(t, "over 4000", written(4000, behind(plain(3935), stretch(66, 1))), api.ErrForm)
}

// D2: bytes that are cut short, and bytes with something behind.
func TestUnpackOfCutAndLongBytes(t *testing.T) {
	for i, s := range texts() {
		if len(s) > 1500 {
			continue
		}
		b := written(len(s), trueTokens(s))
		for k := range b {
			isRefused(t, fmt.Sprintf("text %d, %d of %d bytes", i, k, len(b)), b[:k], api.ErrForm)
		}
		for _, more := range [][]byte{{0}, {1}, {255}, {0, 0}, {0, 'a'}, {0, 0, 0}, bytes.Repeat([]byte{0}, 5000)} {
			isRefused(t, fmt.Sprint("text ", i, ", with more behind"), slices.Concat(b, more), api.ErrForm)
		}
	}
}

// D2: flags of no tokens are unset.
func TestUnpackOfOtherFlags(t *testing.T) {
	for n := 1; n <= 24; n++ {
		s := plain(n)
		b := written(n, bytesOf(s))
		isUnpacked(t, "as it is", b, s)
		for k := range 8 {
			for last := range (n + 7) / 8 {
				q := bytes.Clone(b)
				q[2+9*last] |= 1 << k
				isRefused(t, fmt.Sprintf("%d bytes, flag %d of %d", n, k, last), q, api.ErrForm)
			}
		}
	}
	isUnpacked(t, "the last one has a length", []byte{0, 4, 2, 7, 0, 0}, "\x07\x07\x07\x07")
	for k := 2; k < 8; k++ {
		isRefused(t, "flags behind a length", []byte{0, 4, 2 | 1<<k, 7, 0, 0}, api.ErrForm)
	}
}

// D2: a token that asks for bytes that did not come.
func TestUnpackOfTokensThatDoNotFit(t *testing.T) {
	for _, n := range []int{0, 1, 2, 7, 8, 66, 1023} {
		for _, length := range []int{3, 66} {
			for _, back := range []int{n + 1, n + 2, 1024} {
				if back <= 1024 {
					l := behind(plain(n), stretch(length, back))
					isRefused(t, fmt.Sprint(l), written(n+length, l), api.ErrForm)
				}
			}
		}
	}
}

// few answers all tokens of few kinds that one of left bytes may have.
func few(left int) []api.Token {
	l := []api.Token{{Byte: 0}, {Byte: 1}, {Byte: 2}, {Byte: 4}}
	for length := 3; length <= min(4, left); length++ {
		for _, back := range []int{1, 2, 3, 5} {
			l = append(l, stretch(length, back))
		}
	}
	return l
}

// allPacked finds how each choice of few tokens that fits is written, of
// texts with size bytes.
func allPacked(size int) map[string]string {
	out := map[string]string{}
	var grow func(l []api.Token)
	grow = func(l []api.Token) {
		s := trueText(l)
		if len(s) == size {
			out[string(written(size, l))] = s
			return
		}
		for _, x := range few(size - len(s)) {
			if x.Back <= len(s) {
				grow(append(slices.Clone(l), x))
			}
		}
	}
	grow(nil)
	return out
}

// D2: just what tokens are written as is taken, of all short inputs of few
// kinds of bytes.
func TestUnpackOfAllShortBytes(t *testing.T) {
	kinds := []byte{0, 1, 2, 4}
	for size := range 6 {
		packed := allPacked(size)
		var try func(b []byte)
		try = func(b []byte) {
			s, there := packed[string(b)]
			if there {
				isUnpacked(t, fmt.Sprint(b), b, s)
			} else {
				isRefused(t, fmt.Sprint(b), b, api.ErrForm)
			}
			if len(b) == 9 {
				return
			}
			for _, x := range kinds {
				try(append(slices.Clone(b), x))
			}
		}
		try([]byte{0, byte(size)})
	}
}

// D2: each single byte that is another one is refused, or tells another text
// of the same length, or the same by other tokens; never one of other length.
func TestUnpackOfTurnedBytes(t *testing.T) {
	for _, s := range []string{"abcabcabcabc", "one two one two one two three", strings.Repeat("x", 300), plain(20)} {
		b, _ := Pack([]byte(s))
		for k := range b {
			for by := 1; by < 256; by++ {
				q := bytes.Clone(b)
				q[k] ^= byte(by)
				u, err := Unpack(q)
				if err == api.OK && len(u) != int(q[0])*256+int(q[1]) || err != api.OK && u != nil {
					t.Errorf("%q, byte %d by %d: %d bytes, errno %d", s, k, by, len(u), err)
				}
			}
		}
	}
}
