package pack

import (
	"bytes"
	"math/rand/v2"
	"slices"
	"strings"
	"testing"

	"yearbook/api"
)

// trueTokens tells by searching, for each length from the greatest one down,
// where such a stretch stands last.
func trueTokens(s string) []api.Token {
	var l []api.Token
	for at := 0; at < len(s); {
		t := trueToken(s, at)
		l = append(l, t)
		at += max(1, t.Length)
	}
	return l
}

func trueToken(s string, at int) api.Token {
	first := max(0, at-1024)
	for length := min(66, len(s)-at); length >= 3; length-- {
		if i := strings.LastIndex(s[first:at+length-1], s[at:at+length]); i >= 0 {
			return api.Token{Length: length, Back: at - first - i}
		}
	}
	return api.Token{Byte: s[at]}
}

// trueText tells by repeating what stands from Back ahead on, as a whole.
func trueText(l []api.Token) string {
	s := ""
	for _, t := range l {
		if t.Length == 0 {
			s += string([]byte{t.Byte})
			continue
		}
		s += strings.Repeat(s[len(s)-t.Back:], t.Length)[:t.Length]
	}
	return s
}

// written tells how the tokens l of size bytes are written, whether or not
// they are any.
func written(size int, l []api.Token) []byte {
	out := []byte{byte(size / 256), byte(size % 256)}
	for i, t := range l {
		if i%8 == 0 {
			out = append(out, flagsFrom(l[i:min(i+8, len(l))]))
		}
		if t.Length == 0 {
			out = append(out, t.Byte)
			continue
		}
		n := (t.Length-3)*1024 + (t.Back - 1)
		out = append(out, byte(n/256), byte(n%256))
	}
	return out
}

func flagsFrom(l []api.Token) byte {
	sum, bit := 0, 1
	for _, t := range l {
		if t.Length > 0 {
			sum += bit
		}
		bit *= 2
	}
	return byte(sum)
}

// plain answers a text in which no stretch of three bytes stands twice, and
// none of the bytes from 192 to 199 stands: by turns a count's low and high
// part, which are unlike all of the other kind.
func plain(n int) string {
	out := make([]byte, n)
	for i := range out {
		count := i / 2
		out[i] = byte(count % 192)
		if i%2 == 1 {
			out[i] = byte(200 + count/192)
		}
	}
	return string(out)
}

// bytesOf answers a token for each byte of s.
func bytesOf(s string) []api.Token {
	var l []api.Token
	for _, b := range []byte(s) {
		l = append(l, api.Token{Byte: b})
	}
	return l
}

// randomText answers a text of n bytes, of so many kinds.
func randomText(r *rand.Rand, n, kinds int) string {
	out := make([]byte, n)
	for i := range out {
		out[i] = byte(r.IntN(kinds))
	}
	return string(out)
}

// randomTokens answers tokens that fit, of at most 4000 bytes in all.
func randomTokens(r *rand.Rand, n int) []api.Token {
	var l []api.Token
	size := 0
	for range n {
		t := api.Token{Byte: byte(r.IntN(256))}
		if size > 0 && r.IntN(3) > 0 {
			t = api.Token{Length: 3 + r.IntN(64), Back: 1 + r.IntN(min(size, 1024))}
		}
		size += max(1, t.Length)
		if size > 4000 {
			break
		}
		l = append(l, t)
	}
	return l
}

// texts answers texts of many kinds that may be packed.
func texts() []string {
	out := []string{"", "a", "aa", "aaa", "aaaa", "aaaaa", "ab", "aba", "abab", "ababa", "ababab", "abcabcabcabc", plain(7), plain(8), plain(9), plain(15), plain(16), plain(17), plain(4000)}
	for _, n := range []int{65, 66, 67, 68, 69, 70, 71, 132, 133, 134, 135, 136, 137, 3999, 4000} {
		out = append(out, strings.Repeat("x", n), strings.Repeat("xy", n/2), strings.Repeat("xyz", n/3))
	}
	r := rand.New(rand.NewPCG(4, 12))
	for _, kinds := range []int{1, 2, 3, 5, 20, 256} {
		for range 20 {
			out = append(out, randomText(r, r.IntN(300), kinds))
		}
		out = append(out, randomText(r, 1200+r.IntN(100), kinds))
	}
	for range 10 {
		out = append(out, trueText(randomTokens(r, 5+r.IntN(100))))
	}
	return append(out, randomText(r, 4000, 2), randomText(r, 4000, 12))
}

func wantTokens(t *testing.T, what string, got, asked []api.Token) {
	t.Helper()
	if !slices.Equal(got, asked) {
		t.Errorf("%s: %v comes, not %v", what, got, asked)
	}
}

func wantBytes(t *testing.T, what string, got, asked []byte) {
	t.Helper()
	if !bytes.Equal(got, asked) {
		t.Errorf("%s: %x comes, not %x", what, got, asked)
	}
}

func wantErrno(t *testing.T, what string, got, asked api.Errno) {
	t.Helper()
	if got != asked {
		t.Errorf("%s: errno %d comes, not %d", what, got, asked)
	}
}
