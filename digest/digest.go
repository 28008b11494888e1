// Package digest is layer 2: SHA-256, and the names of texts. See shared/doc/02-digest.md.
package digest

import (
	mathbits "math/bits"
	"strings"

	"cellarer/bits"
)

// block: the bytes that are mixed in at once; rounds: how often each block is turned over.
const (
	block  = 64
	rounds = 64
)

// nameLen: the digits of a sum's 32 bytes.
const nameLen = 64

// roots: the first 32 bits of the fractional parts of the cube roots of the first 64 primes.
var roots = [rounds]uint32{
	0x428a2f98, 0x71374491, 0xb5c0fbcf, 0xe9b5dba5, 0x3956c25b, 0x59f111f1, 0x923f82a4, 0xab1c5ed5,
	0xd807aa98, 0x12835b01, 0x243185be, 0x550c7dc3, 0x72be5d74, 0x80deb1fe, 0x9bdc06a7, 0xc19bf174,
	0xe49b69c1, 0xefbe4786, 0x0fc19dc6, 0x240ca1cc, 0x2de92c6f, 0x4a7484aa, 0x5cb0a9dc, 0x76f988da,
	0x983e5152, 0xa831c66d, 0xb00327c8, 0xbf597fc7, 0xc6e00bf3, 0xd5a79147, 0x06ca6351, 0x14292967,
	0x27b70a85, 0x2e1b2138, 0x4d2c6dfc, 0x53380d13, 0x650a7354, 0x766a0abb, 0x81c2c92e, 0x92722c85,
	0xa2bfe8a1, 0xa81a664b, 0xc24b8b70, 0xc76c51a3, 0xd192e819, 0xd6990624, 0xf40e3585, 0x106aa070,
	0x19a4c116, 0x1e376c08, 0x2748774c, 0x34b0bcb5, 0x391c0cb3, 0x4ed8aa4a, 0x5b9cca4f, 0x682e6ff3,
	0x748f82ee, 0x78a5636f, 0x84c87814, 0x8cc70208, 0x90befffa, 0xa4506ceb, 0xbef9a3f7, 0xc67178f2,
}

// Hash adds up SHA-256, text by text; the zero Hash has none.
type Hash struct {
	state [8]uint32   // behind all whole blocks; asked only once there is one, so that the zero Hash will do
	rest  [block]byte // at its front what doesn't fill a block yet
	size  uint64      // bytes that were written
}

// start: the first 32 bits of the fractional parts of the square roots of the first 8 primes.
func start() [8]uint32 {
	return [8]uint32{
		0x6a09e667, 0xbb67ae85, 0x3c6ef372, 0xa54ff53a, 0x510e527f, 0x9b05688c, 0x1f83d9ab, 0x5be0cd19,
	}
}

// mixed: the words behind all whole blocks.
func (h *Hash) mixed() [8]uint32 {
	if h.size < block {
		return start()
	}
	return h.state
}

// pending: what stands behind the last whole block.
func (h *Hash) pending() string {
	return string(h.rest[:h.size%block])
}

// Write adds a text.
func (h *Hash) Write(s string) {
	state, left := mixAll(h.mixed(), h.pending()+s)
	h.state = state
	h.size += uint64(len(s))
	copy(h.rest[:], left)
}

// Sum: of all that was written; more may be written.
func (h *Hash) Sum() string {
	state, _ := mixAll(h.mixed(), h.pending()+padding(h.size))
	var out []byte
	for _, w := range state {
		out = append(out, byte(w>>24), byte(w>>16), byte(w>>8), byte(w))
	}
	return string(out)
}

// padding: what fills the last block of a text of so many bytes.
func padding(size uint64) string {
	const end = 1 + 8 // the byte 80 and the length
	noughts := (2*block - end - int(size%block)) % block
	out := []byte("\x80" + strings.Repeat("\x00", noughts))
	for shift := 56; shift >= 0; shift -= 8 {
		out = append(out, byte(size*8>>shift))
	}
	return string(out)
}

// mixAll: the words behind all whole blocks of a text, and what is left of it.
func mixAll(state [8]uint32, s string) ([8]uint32, string) {
	for len(s) >= block {
		state = mix(state, s[:block])
		s = s[block:]
	}
	return state, s
}

// mix: the words behind one block.
func mix(state [8]uint32, s string) [8]uint32 {
	w := schedule(s)
	a, b, c, d, e, f, g, h := state[0], state[1], state[2], state[3], state[4], state[5], state[6], state[7]
	for i := range rounds {
		t := h + (right(e, 6) ^ right(e, 11) ^ right(e, 25)) + (e&f ^ ^e&g) + roots[i] + w[i]
		u := (right(a, 2) ^ right(a, 13) ^ right(a, 22)) + (a&b ^ a&c ^ b&c)
		a, b, c, d, e, f, g, h = t+u, a, b, c, d+t, e, f, g
	}
	return [8]uint32{
		state[0] + a, state[1] + b, state[2] + c, state[3] + d,
		state[4] + e, state[5] + f, state[6] + g, state[7] + h,
	}
}

// schedule: a word for each round, made of a block's sixteen.
func schedule(s string) [rounds]uint32 {
	var w [rounds]uint32
	for i := range block {
		w[i/4] = w[i/4]<<8 | uint32(s[i])
	}
	for i := 16; i < rounds; i++ {
		x, y := w[i-15], w[i-2]
		s0 := right(x, 7) ^ right(x, 18) ^ x>>3
		s1 := right(y, 17) ^ right(y, 19) ^ y>>10
		w[i] = w[i-16] + s0 + w[i-7] + s1
	}
	return w
}

// right: a word whose bits were turned n places to the right.
func right(x uint32, n int) uint32 {
	return mathbits.RotateLeft32(x, -n)
}

// Sum: SHA-256 of a text, 32 bytes.
func Sum(s string) string {
	var h Hash
	h.Write(s)
	return h.Sum()
}

// Name: of a text: its sum in digits.
func Name(s string) string {
	return bits.Hex(Sum(s))
}

// Is: is it a name?
func Is(s string) bool {
	if len(s) != nameLen {
		return false
	}
	_, ok := bits.Unhex(s)
	return ok
}
