package pack

import (
	"fmt"
	"math"
	"math/rand/v2"
	"slices"
	"strings"
	"testing"

	"yearbook/api"
)

func isTokens(t *testing.T, what, s string, asked []api.Token) {
	t.Helper()
	l, err := Tokens([]byte(s))
	wantErrno(t, what, err, api.OK)
	wantTokens(t, what, l, asked)
}

func isText(t *testing.T, what string, l []api.Token, asked string) {
	t.Helper()
	b, f := Text(l)
	wantBytes(t, what, b, []byte(asked))
	if f != (api.Fault{}) {
		t.Errorf("%s: %v comes, no fault should", what, f)
	}
}

func isFault(t *testing.T, what string, l []api.Token, asked api.Fault) {
	t.Helper()
	b, f := Text(l)
	if b != nil || f != asked {
		t.Errorf("%s: %d bytes and %v come, not %v", what, len(b), f, asked)
	}
}

// stretch answers a token that has a Length.
func stretch(length, back int) api.Token {
	return api.Token{Length: length, Back: back}
}

// behind answers a token for each byte of s, and more tokens behind them.
func behind(s string, more ...api.Token) []api.Token {
	return append(bytesOf(s), more...)
}

// D1: what is told of each text, and that it tells the text again.
func TestTokensOfManyTexts(t *testing.T) {
	for i, s := range texts() {
		what := fmt.Sprintf("text %d, of %d bytes", i, len(s))
		l, err := Tokens([]byte(s))
		wantErrno(t, what, err, api.OK)
		wantTokens(t, what, l, trueTokens(s))
		isText(t, what, l, s)
	}
}

// D1: stretches that are too short, as short and as long as may be, and longer.
func TestTokensByLength(t *testing.T) {
	isTokens(t, "nothing", "", nil)
	isTokens(t, "one byte", "\x00", []api.Token{{}})
	isTokens(t, "two bytes again", "ab-ab", bytesOf("ab-ab"))
	isTokens(t, "three bytes again", "abc-abc", behind("abc-", stretch(3, 4)))
	isTokens(t, "four bytes again", "abcd-abcd", behind("abcd-", stretch(4, 5)))
	isTokens(t, "one less than may be", plain(65)+"\xc0"+plain(65), behind(plain(65)+"\xc0", stretch(65, 66)))
	isTokens(t, "as many as may be", plain(66)+"\xc0"+plain(66), behind(plain(66)+"\xc0", stretch(66, 67)))
	isTokens(t, "one more", plain(67)+"\xc0"+plain(67), behind(plain(67)+"\xc0", stretch(66, 68), api.Token{Byte: plain(67)[66]}))
	isTokens(t, "three more", plain(69)+"\xc0"+plain(69), behind(plain(69)+"\xc0", stretch(66, 70), stretch(3, 70)))
}

// D1: stretches may lie over each other, and the last one ends with the text.
func TestTokensThatLieOverEachOther(t *testing.T) {
	run := func(n int) string { return strings.Repeat("a", n) }
	isTokens(t, "two", run(2), bytesOf(run(2)))
	isTokens(t, "three", run(3), bytesOf(run(3)))
	isTokens(t, "four", run(4), behind("a", stretch(3, 1)))
	isTokens(t, "66", run(66), behind("a", stretch(65, 1)))
	isTokens(t, "67", run(67), behind("a", stretch(66, 1)))
	isTokens(t, "68", run(68), behind("a", stretch(66, 1), api.Token{Byte: 'a'}))
	isTokens(t, "70", run(70), behind("a", stretch(66, 1), stretch(3, 1)))
	isTokens(t, "by twos", "abababa", behind("ab", stretch(5, 2)))
	isTokens(t, "by threes", "abcabcab", behind("abc", stretch(5, 3)))
	isTokens(t, "by 66", plain(66)+plain(66)+plain(66), behind(plain(66), stretch(66, 66), stretch(66, 66)))
}

// D1: the farthest place that is looked at, and those beside it.
func TestTokensByBack(t *testing.T) {
	const mark = "\xc0\xc1\xc2"
	for _, back := range []int{3, 4, 500, 1022, 1023, 1024, 1025, 1026, 3000} {
		s := mark + plain(back-3)
		asked := behind(s, stretch(3, back))
		if back > 1024 {
			asked = bytesOf(s + mark)
		}
		isTokens(t, fmt.Sprint("back ", back), s+mark, asked)
	}
}

// D1: the longest one wherever it is, and of these the nearest one.
func TestTokensTakesTheLongestThenTheNearest(t *testing.T) {
	isTokens(t, "nearest of two", "abc1abc2abc", behind("abc1", stretch(3, 4), api.Token{Byte: '2'}, stretch(3, 4)))
	isTokens(t, "longer ahead of nearer", "abcd1abc2abcd", behind("abcd1", stretch(3, 5), api.Token{Byte: '2'}, stretch(4, 9)))
	isTokens(t, "longer and nearer", "abc1abcd2abcd", behind("abc1", stretch(3, 4), api.Token{Byte: 'd'}, api.Token{Byte: '2'}, stretch(4, 5)))
	long := "\xc0\xc1\xc2\xc3"
	for _, back := range []int{1024, 1025} {
		s := long + plain(back-8)
		asked := behind(s, stretch(3, back-4), api.Token{Byte: '.'}, stretch(4, back))
		if back > 1024 {
			asked = behind(s, stretch(3, back-4), api.Token{Byte: '.'}, stretch(3, 4), api.Token{Byte: 0xc3})
		}
		isTokens(t, fmt.Sprint("longer, back ", back), s+long[:3]+"."+long, asked)
	}
	far := plain(66)
	isTokens(t, "nearest of the longest", far+"\xc0"+far+far[:3], behind(far+"\xc0", stretch(66, 67), stretch(3, 66)))
	isTokens(t, "from the left, whatever comes behind", "abc1bcdef2abcdef", behind("abc1bcdef2", stretch(3, 10), stretch(3, 7)))
}

// D1.
func TestTokensOfMuch(t *testing.T) {
	for _, s := range []string{strings.Repeat("x", 4001), plain(4001), strings.Repeat("ab", 50000)} {
		l, err := Tokens([]byte(s))
		wantErrno(t, fmt.Sprint(len(s), " bytes"), err, api.ErrMuch)
		if l != nil {
			t.Errorf("%d tokens beside an error", len(l))
		}
	}
	isTokens(t, "as much as may be", plain(4000), bytesOf(plain(4000)))
}

// D1: any tokens that fit have a text, not only those that Tokens tells.
func TestTextOfAnyTokens(t *testing.T) {
	isText(t, "nothing", nil, "")
	isText(t, "nothing", []api.Token{}, "")
	isText(t, "bytes that stood ahead", bytesOf("aaaaaaa"), "aaaaaaa")
	isText(t, "the least", behind("a", stretch(3, 1)), "aaaa")
	isText(t, "the greatest length", behind("a", stretch(66, 1)), strings.Repeat("a", 67))
	isText(t, "over each other", behind("abc", stretch(7, 2)), "abcbcbcbcb")
	isText(t, "all that came", behind("abc", stretch(3, 3)), "abcabc")
	isText(t, "the greatest back", behind(plain(1024), stretch(66, 1024)), plain(1024)+plain(66))
	isText(t, "not from the beginning", behind("?"+plain(1024), stretch(66, 1024)), "?"+plain(1024)+plain(66))
	isText(t, "the farther one", behind("abc1abc2", stretch(3, 8)), "abc1abc2abc")
	r := rand.New(rand.NewPCG(1, 2))
	for range 100 {
		l := randomTokens(r, 1+r.IntN(200))
		isText(t, fmt.Sprint(l), l, trueText(l))
	}
}

// D1: Back of a token with Length 0, and Byte of the others, mean nothing.
func TestTextOfTokensWithMore(t *testing.T) {
	for _, back := range []int{math.MinInt, -1, 1, 2, 1024, 1025, math.MaxInt} {
		isText(t, fmt.Sprint("back ", back), []api.Token{{Back: back, Byte: 'a'}, {Back: back, Byte: 'b'}}, "ab")
	}
	for _, b := range []byte{1, 'a', 255} {
		isText(t, fmt.Sprint("byte ", b), behind("xyz", api.Token{Length: 4, Back: 2, Byte: b}), "xyzyzyz")
	}
}

// outOfRange answers tokens whose Length or Back no token has.
func outOfRange() []api.Token {
	var l []api.Token
	for _, length := range []int{math.MinInt, -66, -3, -1, 1, 2, 67, 68, 1 << 32, math.MaxInt} {
		for _, back := range []int{math.MinInt, -1, 0, 1, 2, 1024, 1025, math.MaxInt} {
			l = append(l, stretch(length, back))
		}
	}
	for _, back := range []int{math.MinInt, -1024, -1, 0, 1025, 1026, 1 << 32, math.MaxInt} {
		for _, length := range []int{3, 4, 65, 66} {
			l = append(l, stretch(length, back))
		}
	}
	return l
}

// D1: a token that is out of range is told as such wherever it stands, also
// where it would not fit, or where no byte more may come.
func TestTextOfTokensOutOfRange(t *testing.T) {
	for _, x := range outOfRange() {
		for _, n := range []int{0, 1, 2, 1024, 2000, 4000} {
			fault := api.Fault{Err: api.ErrRange, At: n}
			isFault(t, fmt.Sprint(x, " behind ", n), behind(plain(n), x), fault)
			isFault(t, fmt.Sprint(x, " behind ", n, ", ahead of others"), behind(plain(n), x, api.Token{}, stretch(3, 0)), fault)
		}
	}
}

// D1: fewer bytes than Back came ahead.
func TestTextOfTokensThatDoNotFit(t *testing.T) {
	for _, n := range []int{0, 1, 2, 3, 66, 1022, 1023} {
		for _, length := range []int{3, 66} {
			for _, back := range []int{n + 1, n + 2, 1024} {
				if back > n && back <= 1024 {
					isFault(t, fmt.Sprint(n, " ahead, back ", back), behind(plain(n), stretch(length, back)), api.Fault{Err: api.ErrFit, At: n})
				}
			}
			if n > 0 {
				isText(t, fmt.Sprint(n, " ahead"), behind(plain(n), stretch(length, n)), plain(n)+strings.Repeat(plain(n), length)[:length])
			}
		}
	}
	// Bytes count, not tokens.
	isText(t, "few tokens", behind("a", stretch(66, 1), stretch(3, 67)), strings.Repeat("a", 70))
	isFault(t, "few tokens", behind("a", stretch(66, 1), stretch(3, 68)), api.Fault{Err: api.ErrFit, At: 2})
}

// D1: as many bytes as may be, and more.
func TestTextOfMuch(t *testing.T) {
	isText(t, "4000 bytes", bytesOf(plain(4000)), plain(4000))
	isFault(t, "4001 bytes", bytesOf(plain(4001)), api.Fault{Err: api.ErrMuch, At: 4000})
	isFault(t, "5000 bytes", bytesOf(plain(5000)), api.Fault{Err: api.ErrMuch, At: 4000})
	for _, length := range []int{3, 4, 65, 66} {
		for over := range 2 * length {
			n := 4000 - length + over
			l := behind(plain(n), stretch(length, 1))
			switch {
			case over == 0:
				isText(t, "just so", l, plain(n)+strings.Repeat(plain(n)[n-1:], length))
			case n <= 4000:
				isFault(t, fmt.Sprint(n, " and ", length), l, api.Fault{Err: api.ErrMuch, At: n})
			default:
				isFault(t, fmt.Sprint(n, " and ", length), l, api.Fault{Err: api.ErrMuch, At: 4000})
			}
		}
	}
	// 61 tokens have 1 + 60*66 = 3961 bytes.
	many := behind("a", slices.Repeat([]api.Token{stretch(66, 1)}, 60)...)
	isText(t, "39 more", append(slices.Clone(many), stretch(39, 1024)), strings.Repeat("a", 4000))
	isFault(t, "40 more", append(slices.Clone(many), stretch(40, 1024)), api.Fault{Err: api.ErrMuch, At: 61})
}

// D1: token by token: what is wrong with the first one is told.
func TestTextTellsTheFirstWrongToken(t *testing.T) {
	bad := []struct {
		x   api.Token
		err api.Errno
	}{{stretch(2, 1), api.ErrRange}, {stretch(3, 1000), api.ErrFit}, {stretch(3, 0), api.ErrRange}, {stretch(66, 900), api.ErrFit}}
	for _, one := range bad {
		for _, other := range bad {
			for n := range 4 {
				isFault(t, "two that are wrong", behind("abcd", append(bytesOf(plain(n)), one.x, other.x)...), api.Fault{Err: one.err, At: 4 + n})
			}
		}
		isFault(t, "wrong behind too much", behind(plain(4001), one.x), api.Fault{Err: api.ErrMuch, At: 4000})
		isFault(t, "wrong ahead of too much", append([]api.Token{{}, one.x}, bytesOf(plain(4001))...), api.Fault{Err: one.err, At: 1})
	}
}
