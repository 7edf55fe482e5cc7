package sha

import (
	"bytes"
	"crypto/sha256"
	"encoding/hex"
	"math/big"
	"slices"
	"strings"
	"sync"
	"testing"

	"yearbook/api"
)

// edges are the lengths at which padding takes a block more, and those around.
var edges = []int{0, 1, 2, 54, 55, 56, 57, 62, 63, 64, 65, 118, 119, 120, 121, 127, 128, 129, 183, 184, 1000}

// text answers n bytes that are not all alike.
func text(n int) []byte {
	b := make([]byte, n)
	for i := range b {
		b[i] = byte(i*i + 31*i + n)
	}
	return b
}

func want(t *testing.T, what string, got, asked []byte) {
	t.Helper()
	if !bytes.Equal(got, asked) {
		t.Errorf("%s: %x comes, not %x", what, got, asked)
	}
}

func trueSum(b []byte) []byte {
	d := sha256.Sum256(b)
	return d[:]
}

// A1: the examples that the standard's own papers print.
func TestSumOfKnownTexts(t *testing.T) {
	known := []struct{ text, digest string }{
		{"", "e3b0c44298fc1c149afbf4c8996fb92427ae41e4649b934ca495991b7852b855"},
		{"abc", "ba7816bf8f01cfea414140de5dae2223b00361a396177a9cb410ff61f20015ad"},
		{
			"abcdbcdecdefdefgefghfghighijhijkijkljklmklmnlmnomnopnopq",
			"248d6a61d20638b8e5c026930c3e6039a33ce45964ff2167f6ecedd419db06c1",
		},
		{
			"abcdefghbcdefghicdefghijdefghijkefghijklfghijklmghijklmnhijklmnoijklmnopjklmnopqklmnopqrlmnopqrsmnopqrstnopqrstu",
			"cf5b16a778af8380036ce59e7b0492370b249b11e8f07a51afac45037afee9d1",
		},
		{
			strings.Repeat("a", 1000000),
			"cdc76e5c9914fb9281a1c7e284d73e67f1809a48a497200e046d39ccc7112cd0",
		},
	}
	for _, k := range known {
		asked, err := hex.DecodeString(k.digest)
		if err != nil {
			t.Fatal(err)
		}
		want(t, "Sum", Sum([]byte(k.text)), asked)
		want(t, "Parts", Parts([][]byte{[]byte(k.text)}), asked)
	}
}

// A1: every length around several blocks, and bytes of every value.
func TestSumOfEveryLength(t *testing.T) {
	for n := range 400 {
		want(t, "Sum", Sum(text(n)), trueSum(text(n)))
		for _, x := range []byte{0, 0x80, 0xff} {
			b := bytes.Repeat([]byte{x}, n)
			want(t, "Sum of like bytes", Sum(b), trueSum(b))
		}
	}
	for x := range 256 {
		want(t, "Sum of one byte", Sum([]byte{byte(x)}), trueSum([]byte{byte(x)}))
	}
}

// A1: how many bits came takes all eight bytes, not the low four alone.
func TestPadding(t *testing.T) {
	counts := []uint64{1 << 29, 1<<31 - 1, 1<<40 + 55, 1<<60 + 56}
	for _, n := range edges {
		counts = append(counts, uint64(n))
	}
	for _, count := range counts {
		p := padding(count)
		if (count+uint64(len(p)))%64 != 0 || len(p) < 9 || len(p) > 72 {
			t.Fatalf("%d bytes behind %d", len(p), count)
		}
		asked := make([]byte, len(p))
		asked[0] = 0x80
		new(big.Int).Mul(new(big.Int).SetUint64(count), big.NewInt(8)).FillBytes(asked[len(p)-8:])
		want(t, "padding", p, asked)
	}
}

// primes answers the first n primes.
func primes(n int) []int64 {
	var out []int64
	for k := int64(2); len(out) < n; k++ {
		if big.NewInt(k).ProbablyPrime(0) {
			out = append(out, k)
		}
	}
	return out
}

// A1: the words are the bits behind the points of the roots: the greatest
// number whose power is not above the prime, so many bits further left.
func TestWordsAreRoots(t *testing.T) {
	isRoot := func(prime int64, power int64, word uint32) bool {
		goal := new(big.Int).Lsh(big.NewInt(prime), uint(32*power))
		for whole := range int64(100) {
			low := big.NewInt(whole<<32 | int64(word))
			high := new(big.Int).Add(low, big.NewInt(1))
			e := big.NewInt(power)
			if low.Exp(low, e, nil).Cmp(goal) <= 0 && high.Exp(high, e, nil).Cmp(goal) > 0 {
				return true
			}
		}
		return false
	}
	first := begin().words
	for i, p := range primes(rounds) {
		if i < len(first) && !isRoot(p, 2, first[i]) {
			t.Errorf("first word %d is no square root's", i)
		}
		if !isRoot(p, 3, roundWords[i]) {
			t.Errorf("word of round %d is no cube root's", i)
		}
	}
}

// A2: where the parts are cut does not matter.
func TestPartsCutAnywhere(t *testing.T) {
	for _, n := range edges {
		b := text(n)
		asked := trueSum(b)
		for cut := range n + 1 {
			want(t, "two parts", Parts([][]byte{b[:cut], b[cut:]}), asked)
			want(t, "three parts", Parts([][]byte{b[:cut/2], b[cut/2 : cut], b[cut:]}), asked)
		}
		var single [][]byte
		for i := range b {
			single = append(single, nil, b[i:i+1], []byte{})
		}
		want(t, "parts of one byte", Parts(single), asked)
	}
}

// A2: parts come in their order, each as often as it stands there.
func TestPartsInOrder(t *testing.T) {
	a, b := text(70), text(40)
	want(t, "a b", Parts([][]byte{a, b}), trueSum(slices.Concat(a, b)))
	want(t, "b a", Parts([][]byte{b, a}), trueSum(slices.Concat(b, a)))
	want(t, "a a b", Parts([][]byte{a, a, b}), trueSum(slices.Concat(a, a, b)))
	want(t, "parts over each other", Parts([][]byte{a[:50], a[20:]}), trueSum(slices.Concat(a[:50], a[20:])))
	many := make([][]byte, 1<<17)
	for i := range many {
		many[i] = a[i%70 : i%70+1]
	}
	want(t, "many parts", Parts(many), trueSum(slices.Concat(many...)))
}

// Z3: nil and a list without entries are the same.
func TestNothing(t *testing.T) {
	asked := trueSum(nil)
	spare := []byte("spare")
	for _, b := range [][]byte{nil, {}, spare[:0], spare[5:]} {
		want(t, "Sum of nothing", Sum(b), asked)
		want(t, "Parts of one that is nothing", Parts([][]byte{b}), asked)
		want(t, "Parts of nothings", Parts([][]byte{b, nil, {}, b}), asked)
		want(t, "nothing around", Parts([][]byte{nil, b, spare, b, {}}), trueSum(spare))
	}
	for _, l := range [][][]byte{nil, {}, [][]byte{spare, spare}[:0]} {
		want(t, "Parts of no parts", Parts(l), asked)
	}
}

// Z2: neither a list nor the spare room behind it is changed, and the answer
// does not hang on that room.
func TestArgumentsAreOnlyRead(t *testing.T) {
	for _, n := range edges {
		for _, fill := range []byte{0, 0x80, 0xff} {
			whole := append(text(n), bytes.Repeat([]byte{fill}, 200)...)
			kept := bytes.Clone(whole)
			want(t, "Sum", Sum(whole[:n]), trueSum(text(n)))
			want(t, "whole, after Sum", whole, kept)

			list := [][]byte{whole[:n/2], whole[n/2 : n], whole[n:], {fill}}
			want(t, "Parts", Parts(list[:2]), trueSum(text(n)))
			want(t, "whole, after Parts", whole, kept)
			want(t, "list, after Parts", slices.Concat(list...), append(kept, fill))
			for i, size := range []int{n / 2, n - n/2, 200, 1} {
				if len(list[i]) != size {
					t.Errorf("part %d has %d bytes, after Parts", i, len(list[i]))
				}
			}
		}
	}
}

// Z2: an answer is the caller's, with its spare room, and nothing is kept.
func TestAnswersAreNewMemory(t *testing.T) {
	b := text(api.Digest)
	calls := []func() []byte{
		func() []byte { return Sum(b) },
		func() []byte { return Parts([][]byte{b}) },
		func() []byte { return Sum(nil) },
		func() []byte { return Parts(nil) },
	}
	kept := bytes.Clone(b)
	for _, call := range calls {
		first, second := call(), call()
		asked := bytes.Clone(first)
		if len(first) != api.Digest {
			t.Errorf("%d bytes come, not %d", len(first), api.Digest)
		}
		room := first[:cap(first)]
		for i := range room {
			room[i] ^= 0xff
		}
		want(t, "an answer of before", second, asked)
		want(t, "an answer of after", call(), asked)
		want(t, "the argument", b, kept)
	}
	before := Sum(b)
	for i := range b {
		b[i] ^= 0xff
	}
	want(t, "an answer, the argument changed", before, trueSum(kept))
	want(t, "of the changed one", Sum(b), trueSum(b))
}

// Z1: calls beside each other have nothing in common.
func TestCallsBesideEachOther(t *testing.T) {
	b := text(5000)
	asked := trueSum(b)
	var wait sync.WaitGroup
	for i := range 8 {
		wait.Go(func() {
			for range 20 {
				if !bytes.Equal(Sum(b), asked) || !bytes.Equal(Parts([][]byte{b[:i*100], b[i*100:]}), asked) {
					t.Error("another digest comes beside other calls")
				}
			}
		})
	}
	wait.Wait()
}
