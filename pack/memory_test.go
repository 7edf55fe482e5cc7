package pack

import (
	"bytes"
	"fmt"
	"math"
	"math/rand/v2"
	"slices"
	"testing"

	"yearbook/api"
)

// roomy answers b with spare room behind it, full of fill.
func roomy(b []byte, fill byte) []byte {
	return append(bytes.Clone(b), bytes.Repeat([]byte{fill}, 100)...)[:len(b)]
}

func roomyTokens(l []api.Token, fill byte) []api.Token {
	n := int(fill)
	return append(slices.Clone(l), slices.Repeat([]api.Token{{Length: n, Back: n, Byte: fill}}, 100)...)[:len(l)]
}

// scribble changes all of b, its spare room too.
func scribble(b []byte) {
	b = b[:cap(b)]
	for i := range b {
		b[i] ^= 0xa5
	}
}

func scribbleTokens(l []api.Token) {
	l = l[:cap(l)]
	for i := range l {
		l[i] = api.Token{Length: 99 ^ l[i].Length, Back: 99 ^ l[i].Back, Byte: 99 ^ l[i].Byte}
	}
}

// bytesCall has a name, and tells what a call that is given bytes answers;
// then it scribbles over that, if it is asked to.
type bytesCall struct {
	name string
	run  func(b []byte) (told func() string, spoil func())
}

func bytesCalls() []bytesCall {
	return []bytesCall{
		{"Tokens", func(b []byte) (func() string, func()) {
			l, err := Tokens(b)
			return func() string { return fmt.Sprint(l, err) }, func() { scribbleTokens(l) }
		}},
		{"Pack", func(b []byte) (func() string, func()) {
			p, err := Pack(b)
			return func() string { return fmt.Sprint(p, err) }, func() { scribble(p) }
		}},
		{"Unpack", func(b []byte) (func() string, func()) {
			s, err := Unpack(b)
			return func() string { return fmt.Sprint(s, err) }, func() { scribble(s) }
		}},
	}
}

// Z2: bytes that are handed in are only read, their spare room is not looked
// at, and what is answered shares nothing with them, nor with other answers.
func TestMemoryOfBytes(t *testing.T) {
	for i, s := range texts() {
		if len(s) > 400 {
			continue
		}
		for _, b := range [][]byte{[]byte(s), written(len(s), trueTokens(s))} {
			for _, c := range bytesCalls() {
				what := fmt.Sprintf("%s, text %d", c.name, i)
				one, other := roomy(b, 'x'), roomy(b, 'a')
				memory := bytes.Clone(one[:cap(one)])
				told, spoil := c.run(one)
				toldToo, spoilToo := c.run(other)
				asked := told()
				if toldToo() != asked {
					t.Errorf("%s: %s comes, and %s with other spare room", what, asked, toldToo())
				}
				spoilToo()
				wantBytes(t, what+", what is handed in", one[:cap(one)], memory)
				scribble(one)
				if told() != asked {
					t.Errorf("%s: the answer changes with what was handed in", what)
				}
				scribble(one)
				spoil()
				wantBytes(t, what+", what is handed in, when the answer changes", one[:cap(one)], memory)
			}
		}
	}
}

// Z2: likewise of tokens.
func TestMemoryOfTokens(t *testing.T) {
	r := rand.New(rand.NewPCG(3, 3))
	for range 100 {
		l := randomTokens(r, r.IntN(60))
		one, other := roomyTokens(l, 3), roomyTokens(l, 9)
		memory := slices.Clone(one[:cap(one)])
		b, f := Text(one)
		c, g := Text(other)
		wantBytes(t, "other spare room", c, b)
		if f != g {
			t.Errorf("%v comes, and %v with other spare room", f, g)
		}
		asked := bytes.Clone(b)
		scribble(c)
		scribbleTokens(one)
		wantBytes(t, "the answer, when what was handed in changes", b, asked)
		scribbleTokens(one)
		scribble(b)
		wantTokens(t, "what is handed in", one[:cap(one)], memory)
	}
}

// Z3: nil and what has no entries are the same.
func TestNothing(t *testing.T) {
	for _, c := range bytesCalls() {
		one, _ := c.run(nil)
		other, _ := c.run([]byte{})
		if one() != other() {
			t.Errorf("%s: %s of nil, %s of nothing", c.name, one(), other())
		}
	}
	isText(t, "nil", nil, "")
	isText(t, "nothing", []api.Token{}, "")
}

// Z1: whatever is given, a call answers, and the same again.
func TestAnything(t *testing.T) {
	r := rand.New(rand.NewPCG(9, 1))
	for range 20000 {
		b := []byte(randomText(r, r.IntN(40), 1+r.IntN(256)))
		if len(b) > 1 && r.IntN(2) == 0 {
			b[0], b[1] = 0, byte(r.IntN(80))
		}
		s, err := Unpack(b)
		again, errAgain := Unpack(b)
		if !bytes.Equal(s, again) || err != errAgain || err != api.OK && s != nil {
			t.Errorf("%x: %x and %d, then %x and %d", b, s, err, again, errAgain)
		}
	}
	numbers := []int{math.MinInt, math.MinInt32, -1, 0, 0, 0, 1, 2, 3, 4, 66, 67, 1024, 1025, math.MaxInt32, math.MaxInt}
	for range 20000 {
		var l []api.Token
		for range r.IntN(20) {
			l = append(l, api.Token{Length: numbers[r.IntN(len(numbers))], Back: numbers[r.IntN(len(numbers))], Byte: byte(r.IntN(256))})
		}
		s, f := Text(l)
		again, g := Text(l)
		if !bytes.Equal(s, again) || f != g || f.Err != api.OK && s != nil {
			t.Errorf("%v: %x and %v, then %x and %v", l, s, f, again, g)
		}
	}
}
