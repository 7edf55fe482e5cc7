// Package sha has SHA-256: see doc/01-sha.md.
package sha

import "yearbook/api"

// Sum answers the SHA-256 of b.
func Sum(b []byte) []byte {
	r := begin()
	r.add(b)
	return r.end()
}

// Parts answers the SHA-256 of all of l's bytes, one part behind the other.
// They are taken in part by part, so that no second list of them all is made.
func Parts(l [][]byte) []byte {
	r := begin()
	for _, b := range l {
		r.add(b)
	}
	return r.end()
}

// run is a digest on its way: count bytes came, and those of them that do not
// fill a block yet stand at the beginning of block.
type run struct {
	words [8]uint32
	block [blockBytes]byte
	count uint64
}

// begin answers a run to which nothing came: its words are the first 32 bits
// behind the point of the square roots of the first eight primes.
func begin() run {
	return run{words: [8]uint32{
		0x6a09e667, 0xbb67ae85, 0x3c6ef372, 0xa54ff53a,
		0x510e527f, 0x9b05688c, 0x1f83d9ab, 0x5be0cd19,
	}}
}

// add takes b in, and mixes each block as soon as it is full.
func (r *run) add(b []byte) {
	for _, x := range b {
		r.block[r.count%blockBytes] = x
		r.count++
		if r.count%blockBytes == 0 {
			r.words = mix(r.words, r.block)
		}
	}
}

// end answers the digest of what came.
func (r *run) end() []byte {
	r.add(padding(r.count))
	out := make([]byte, 0, api.Digest)
	for _, w := range r.words {
		out = append(out, byte(w>>24), byte(w>>16), byte(w>>8), byte(w))
	}
	return out
}

// padding answers what comes behind count bytes: 0x80, as few noughts as fill
// a block with the eight bytes behind them, and these: how many bits came.
func padding(count uint64) []byte {
	noughts := (2*blockBytes - 1 - 8 - count%blockBytes) % blockBytes
	out := make([]byte, 1+noughts, 1+noughts+8)
	out[0] = 0x80
	size := count * 8
	for shift := 56; shift >= 0; shift -= 8 {
		out = append(out, byte(size>>shift))
	}
	return out
}
