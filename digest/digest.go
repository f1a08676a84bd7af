// Package digest is layer 1: see shared/doc/01-digest.md.
package digest

import (
	"math/bits"

	"lockbox/api"
)

const (
	blockBytes  = 64
	lengthBytes = 8
	wordBytes   = 4
)

// first holds h0 to h7, the state into which nothing was taken.
var first = [8]uint32{
	0x6a09e667, 0xbb67ae85, 0x3c6ef372, 0xa54ff53a, 0x510e527f, 0x9b05688c, 0x1f83d9ab, 0x5be0cd19,
}

// roots holds k0 to k63.
var roots = [64]uint32{
	0x428a2f98, 0x71374491, 0xb5c0fbcf, 0xe9b5dba5, 0x3956c25b, 0x59f111f1, 0x923f82a4, 0xab1c5ed5,
	0xd807aa98, 0x12835b01, 0x243185be, 0x550c7dc3, 0x72be5d74, 0x80deb1fe, 0x9bdc06a7, 0xc19bf174,
	0xe49b69c1, 0xefbe4786, 0x0fc19dc6, 0x240ca1cc, 0x2de92c6f, 0x4a7484aa, 0x5cb0a9dc, 0x76f988da,
	0x983e5152, 0xa831c66d, 0xb00327c8, 0xbf597fc7, 0xc6e00bf3, 0xd5a79147, 0x06ca6351, 0x14292967,
	0x27b70a85, 0x2e1b2138, 0x4d2c6dfc, 0x53380d13, 0x650a7354, 0x766a0abb, 0x81c2c92e, 0x92722c85,
	0xa2bfe8a1, 0xa81a664b, 0xc24b8b70, 0xc76c51a3, 0xd192e819, 0xd6990624, 0xf40e3585, 0x106aa070,
	0x19a4c116, 0x1e376c08, 0x2748774c, 0x34b0bcb5, 0x391c0cb3, 0x4ed8aa4a, 0x5b9cca4f, 0x682e6ff3,
	0x748f82ee, 0x78a5636f, 0x84c87814, 0x8cc70208, 0x90befffa, 0xa4506ceb, 0xbef9a3f7, 0xc67178f2,
}

// Run is a text of which some was taken in.
type Run struct {
	added [8]uint32        // what blocks added to the first state: of a zero Run nothing
	block [blockBytes]byte // the bytes of the block that is not whole yet; behind them stand old ones
	size  int
}

// Begin is a run of nothing.
func Begin() Run { return Run{} }

// With is a run, and a text behind it.
func (r Run) With(s string) Run {
	for len(s) > 0 {
		n := copy(r.block[r.size%blockBytes:], s)
		s = s[n:]
		r.size += n
		if r.size%blockBytes == 0 {
			r.added = takeIn(r.added, wordsOf(r.block))
		}
	}
	return r
}

// Size is how many bytes a run has.
func (r Run) Size() int { return r.size }

// Sum is the digest of what a run has.
func (r Run) Sum() string {
	r = r.With(ending(r.size))
	var out [api.DigestBytes]byte
	for i := range out {
		word := first[i/wordBytes] + r.added[i/wordBytes]
		out[i] = byte(word >> (24 - i%wordBytes*8))
	}
	return string(out[:])
}

// ending is what stands behind a text of so many bytes to fill its last block.
func ending(size int) string {
	end := [2 * blockBytes]byte{128}
	long := Blocks(size)*blockBytes - size
	inBits := uint64(size) * 8
	for i := range lengthBytes {
		end[long-1-i] = byte(inBits >> (8 * i))
	}
	return string(end[:long])
}

func wordsOf(block [blockBytes]byte) [16]uint32 {
	var w [16]uint32
	for i := range w {
		b := block[wordBytes*i : wordBytes*(i+1)]
		w[i] = uint32(b[0])<<24 | uint32(b[1])<<16 | uint32(b[2])<<8 | uint32(b[3])
	}
	return w
}

func right(x uint32, n int) uint32 { return bits.RotateLeft32(x, -n) }

// takeIn takes in the block of the words w. These turn: only sixteen are asked at a time, so each later word takes the place of the one that is sixteen ahead.
func takeIn(added [8]uint32, w [16]uint32) [8]uint32 {
	a, b, c, d := first[0]+added[0], first[1]+added[1], first[2]+added[2], first[3]+added[3]
	e, f, g, h := first[4]+added[4], first[5]+added[5], first[6]+added[6], first[7]+added[7]
	for t := range 64 {
		if t >= 16 {
			x, y := w[(t-15)%16], w[(t-2)%16]
			w[t%16] += (right(x, 7) ^ right(x, 18) ^ x>>3) + w[(t-7)%16] + (right(y, 17) ^ right(y, 19) ^ y>>10)
		}
		u := h + (right(e, 6) ^ right(e, 11) ^ right(e, 25)) + (e&f ^ ^e&g) + roots[t] + w[t%16]
		v := (right(a, 2) ^ right(a, 13) ^ right(a, 22)) + (a&b ^ a&c ^ b&c)
		h, g, f, e, d, c, b, a = g, f, e, d+u, c, b, a, u+v
	}
	for i, word := range [8]uint32{a, b, c, d, e, f, g, h} {
		added[i] += word
	}
	return added
}

// Sum is the digest of a text.
func Sum(s string) string { return Begin().With(s).Sum() }

// Join is the digest of parts.
func Join(parts ...string) string {
	r := Begin()
	for _, s := range parts {
		r = r.With(s)
	}
	return r.Sum()
}

// Twice is the digest of a digest.
func Twice(s string) string { return Sum(Sum(s)) }

// Blocks is how many blocks are taken in.
func Blocks(n int) int {
	if n < 0 {
		return 0
	}
	blocks := n/blockBytes + 1
	if n%blockBytes+1+lengthBytes > blockBytes { // no room behind the text for what ends it
		blocks++
	}
	return blocks
}
