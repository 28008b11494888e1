// Package bits is layer 1: numbers as bytes, hexadecimal digits, the cyclic sum. See shared/doc/01-bits.md.
package bits

// digits: by their worth.
const digits = "0123456789abcdef"

// polynomial: that of IEEE 802.3, its bits turned about.
const polynomial = 0xedb88320

// wide: the bytes of a number; widest: the groups of seven bits that the greatest number has.
const (
	wide   = 8
	widest = 10
)

// Put: a number in n bytes, the lowest first; of more than eight the others are 0.
func Put(x uint64, n int) string {
	var out []byte
	for range n {
		out = append(out, byte(x))
		x >>= 8
	}
	return string(out)
}

// Get: the number of bytes, the lowest first; of more than eight: of the first eight.
func Get(s string) uint64 {
	var x uint64
	for i := 0; i < len(s) && i < wide; i++ {
		x |= uint64(s[i]) << (8 * i)
	}
	return x
}

// Var: a number in groups of seven bits, the lowest first, the highest bit set in all but the last.
func Var(x uint64) string {
	var out []byte
	for x >= 0x80 {
		out = append(out, byte(x)|0x80)
		x >>= 7
	}
	return string(append(out, byte(x)))
}

// Unvar: the number at the front, and how many bytes it has; 0, 0: there is none.
func Unvar(s string) (uint64, int) {
	var x uint64
	for i := 0; i < len(s); i++ {
		b := s[i]
		// Nine groups hold 63 bits: the tenth has room for one more, and none follows it.
		if i == widest-1 && b > 1 {
			return 0, 0
		}
		x |= uint64(b&0x7f) << (7 * i)
		if b >= 0x80 {
			continue
		}
		// Var would have ended ahead of a last group without bits.
		if b == 0 && i > 0 {
			return 0, 0
		}
		return x, i + 1
	}
	return 0, 0
}

// Hex: two digits a byte.
func Hex(s string) string {
	out := make([]byte, 0, 2*len(s))
	for i := 0; i < len(s); i++ {
		out = append(out, digits[s[i]>>4], digits[s[i]&15])
	}
	return string(out)
}

// Unhex: the bytes of a text of digits; false: it is none.
func Unhex(s string) (string, bool) {
	if len(s)%2 != 0 {
		return "", false
	}
	out := make([]byte, 0, len(s)/2)
	high := byte(0)
	// The place of a rune says which half it is: all ahead of it were digits, of a byte each.
	for i, r := range s {
		d, ok := worth(r)
		if !ok {
			return "", false
		}
		if i%2 == 0 {
			high = d
		} else {
			out = append(out, high<<4|d)
		}
	}
	return string(out), true
}

// worth: of a digit; false: it is none (great letters aren't, for Hex writes small ones).
func worth(r rune) (byte, bool) {
	switch {
	case '0' <= r && r <= '9':
		return byte(r - '0'), true
	case 'a' <= r && r <= 'f':
		return byte(r-'a') + 10, true
	}
	return 0, false
}

// Table: what each byte does to a cyclic sum.
func Table() [256]uint32 {
	var t [256]uint32
	c := uint32(1)
	// What a xor of two bytes does is the xor of what each does, so a byte follows from its lowest bit and the others.
	for bit := 128; bit > 0; bit /= 2 {
		c = shifted(c)
		for b := 0; b < 256; b += 2 * bit {
			t[b+bit] = t[b] ^ c
		}
	}
	return t
}

// shifted: a sum behind one bit more.
func shifted(c uint32) uint32 {
	if c&1 == 1 {
		return c>>1 ^ polynomial
	}
	return c >> 1
}

// Crc32: the cyclic sum of a text.
func Crc32(s string) uint32 {
	return Crc(0, s)
}

// Crc: the sum of a text behind what has the sum c.
func Crc(c uint32, s string) uint32 {
	t := Table()
	c = ^c
	for i := 0; i < len(s); i++ {
		c = t[byte(c)^s[i]] ^ c>>8
	}
	return ^c
}
