package pack

import "yearbook/api"

// width answers how many bytes of text t stands for.
func width(t api.Token) int {
	if t.Length == 0 {
		return 1
	}
	return t.Length
}

// tokenAt answers the token that stands for what b has at at.
func tokenAt(b []byte, at int) api.Token {
	length, back := longest(b, at)
	if length < api.MinLength {
		return api.Token{Byte: b[at]}
	}
	return api.Token{Length: length, Back: back}
}

// longest answers the length of the longest stretch at at that stood ahead,
// and how far ahead. It goes from the nearest one on, so that of several with
// one length the nearest one stays.
func longest(b []byte, at int) (length, back int) {
	for far := 1; far <= min(at, api.MaxBack); far++ {
		if n := alike(b, at, far); n > length {
			length, back = n, far
		}
	}
	return length, back
}

// alike answers how many bytes at at, MaxLength at most, are those that stand
// back bytes ahead of them.
func alike(b []byte, at, back int) int {
	most := min(len(b)-at, api.MaxLength)
	n := 0
	for n < most && b[at+n] == b[at+n-back] {
		n++
	}
	return n
}

// wrong tells what is wrong with t, if came bytes of text came ahead of it.
func wrong(t api.Token, came int) api.Errno {
	switch {
	case t.Length != 0 && !isInRange(t):
		return api.ErrRange
	case t.Length != 0 && t.Back > came:
		return api.ErrFit
	case came+width(t) > api.MaxPlain:
		return api.ErrMuch
	}
	return api.OK
}

func isInRange(t api.Token) bool {
	return api.MinLength <= t.Length && t.Length <= api.MaxLength && 1 <= t.Back && t.Back <= api.MaxBack
}

// spell answers text with what t stands for behind it. It takes byte by byte,
// as a stretch may reach into what the token itself brings.
func spell(text []byte, t api.Token) []byte {
	if t.Length == 0 {
		return append(text, t.Byte)
	}
	for range t.Length {
		text = append(text, text[len(text)-t.Back])
	}
	return text
}
