package pack

import "yearbook/api"

// perFlags is how many tokens a byte of flags tells of.
const perFlags = 8

// pair is how many bytes a length of text, or a token that has a Length, is
// written in.
const pair = 2

func writePair(out []byte, n int) []byte {
	return append(out, byte(n>>8), byte(n))
}

// readPair reads the number that b, of two bytes at least, begins with.
func readPair(b []byte) int {
	return int(b[0])<<8 | int(b[1])
}

// writeGroup writes the tokens of group, at most perFlags, behind their flags.
func writeGroup(out []byte, group []api.Token) []byte {
	out = append(out, flagsOf(group))
	for _, t := range group {
		out = writeToken(out, t)
	}
	return out
}

func flagsOf(group []api.Token) byte {
	var flags byte
	for k, t := range group {
		if t.Length != 0 {
			flags |= 1 << k
		}
	}
	return flags
}

// writeToken takes Length and Back from what their least is, so that the two
// just fill a pair.
func writeToken(out []byte, t api.Token) []byte {
	if t.Length == 0 {
		return append(out, t.Byte)
	}
	return writePair(out, (t.Length-api.MinLength)*api.MaxBack+t.Back-1)
}

// readTokens reads the tokens of a text of size bytes; false, if b is not just
// such tokens. Whether what they ask for came ahead of them it leaves to Text.
func readTokens(b []byte, size int) ([]api.Token, bool) {
	var l []api.Token
	var flags byte // of the tokens that are to come, the next one's lowest
	for size > 0 {
		if len(l)%perFlags == 0 {
			if len(b) == 0 {
				return nil, false
			}
			flags, b = b[0], b[1:]
		}
		t, rest, ok := readToken(b, flags&1 != 0)
		if !ok {
			return nil, false
		}
		l, b = append(l, t), rest
		flags >>= 1
		size -= width(t)
	}
	return l, size == 0 && flags == 0 && len(b) == 0
}

// readToken reads the token that b begins with, and answers what is behind it.
func readToken(b []byte, hasLength bool) (t api.Token, rest []byte, ok bool) {
	if !hasLength {
		if len(b) == 0 {
			return t, nil, false
		}
		return api.Token{Byte: b[0]}, b[1:], true
	}
	if len(b) < pair {
		return t, nil, false
	}
	n := readPair(b)
	return api.Token{Length: n/api.MaxBack + api.MinLength, Back: n%api.MaxBack + 1}, b[pair:], true
}
