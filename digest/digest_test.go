package digest

import (
	"crypto/sha256"
	"encoding/hex"
	"math"
	"math/big"
	"math/rand/v2"
	"strings"
	"testing"
)

// dice: the same numbers in every run.
func dice() *rand.Rand {
	return rand.New(rand.NewPCG(3, 4))
}

func randomText(r *rand.Rand, n int) string {
	out := make([]byte, n)
	for i := range out {
		out[i] = byte(r.Uint32())
	}
	return string(out)
}

func librarySum(s string) string {
	sum := sha256.Sum256([]byte(s))
	return string(sum[:])
}

// P2.1: published sums.
func TestName(t *testing.T) {
	for s, want := range map[string]string{
		"":    "e3b0c44298fc1c149afbf4c8996fb92427ae41e4649b934ca495991b7852b855",
		"abc": "ba7816bf8f01cfea414140de5dae2223b00361a396177a9cb410ff61f20015ad",
		"abcdbcdecdefdefgefghfghighijhijkijkljklmklmnlmnomnopnopq":                                                         "248d6a61d20638b8e5c026930c3e6039a33ce45964ff2167f6ecedd419db06c1",
		"abcdefghbcdefghicdefghijdefghijkefghijklfghijklmghijklmnhijklmnoijklmnopjklmnopqklmnopqrlmnopqrsmnopqrstnopqrstu": "cf5b16a778af8380036ce59e7b0492370b249b11e8f07a51afac45037afee9d1",
		strings.Repeat("a", 1000000): "cdc76e5c9914fb9281a1c7e284d73e67f1809a48a497200e046d39ccc7112cd0",
	} {
		if got := Name(s); got != want {
			t.Errorf("Name of %d bytes: %s, not %s", len(s), got, want)
		}
	}
}

// P2.1: every length around the ends of blocks.
func TestSum(t *testing.T) {
	r := dice()
	for n := range 300 {
		s := randomText(r, n)
		want := librarySum(s)
		if got := Sum(s); got != want {
			t.Errorf("Sum of %d bytes: %x, not %x", n, got, want)
		}
		if got := Name(s); got != hex.EncodeToString([]byte(want)) {
			t.Errorf("Name of %d bytes: %s", n, got)
		}
		if Sum(s) != want {
			t.Errorf("Sum of %d bytes, asked again, is another one", n)
		}
	}
}

// P2.1
func TestIs(t *testing.T) {
	name := Name("x")
	for _, s := range []string{name, Name(""), strings.Repeat("0", 64), strings.Repeat("f", 64), strings.Repeat("9a", 32)} {
		if !Is(s) {
			t.Errorf("Is(%q): false", s)
		}
	}
	for _, s := range []string{
		"", "ab", name[:63], name[1:], name[:62], name + "0", name + "00", name + name,
		strings.ToUpper(name), name[:63] + "F", "A" + name[1:], name[:63] + "g", "/" + name[1:], ":" + name[1:], "`" + name[1:],
		" " + name[1:], name[:63] + "\n", name[:63] + "\x00", name[:63] + "\xff", name[:62] + "é", name[:61] + "\uff10",
		strings.Repeat("é", 32), strings.Repeat("é", 64), strings.Repeat("\x00", 64), Sum("x"), Sum("x") + Sum("x"),
	} {
		if Is(s) {
			t.Errorf("Is(%q): true", s)
		}
	}
}

// P2.2: two parts, cut anywhere.
func TestHashInTwoParts(t *testing.T) {
	s := randomText(dice(), 200)
	for i := range len(s) + 1 {
		for j := i; j <= len(s); j++ {
			var h Hash
			h.Write(s[:i])
			h.Write(s[i:j])
			if got := h.Sum(); got != librarySum(s[:j]) {
				t.Fatalf("%d bytes, cut at %d: %x", j, i, got)
			}
		}
	}
}

// P2.2: many parts, the empty one among them; Sum is asked behind each.
func TestHashInManyParts(t *testing.T) {
	r := dice()
	for range 100 {
		var h Hash
		all := ""
		for range 40 {
			part := randomText(r, int(r.Uint32()%[]uint32{2, 10, 70, 200}[r.Uint32()%4]))
			h.Write(part)
			all += part
			if got := h.Sum(); got != librarySum(all) {
				t.Fatalf("%d bytes in parts: %x", len(all), got)
			}
		}
	}
}

// P2.2: Sum changes nothing, and is asked by no more than one byte at a time, too.
func TestHashByteByByte(t *testing.T) {
	var h Hash
	if h.Sum() != librarySum("") || h != (Hash{}) {
		t.Error("the zero Hash")
	}
	h.Write("")
	if h.Sum() != librarySum("") {
		t.Error("nothing was written")
	}
	s := randomText(dice(), 300)
	for i := range len(s) {
		h.Write(s[i : i+1])
		ahead := h
		first, second := h.Sum(), h.Sum()
		if first != librarySum(s[:i+1]) || second != first || h != ahead {
			t.Fatalf("%d bytes: %x, %x", i+1, first, second)
		}
	}
}

// P2.2: a copy goes its own way.
func TestHashCopies(t *testing.T) {
	s := randomText(dice(), 150)
	for _, n := range []int{0, 1, 63, 64, 65, 127, 128, 150} {
		var h Hash
		h.Write(s[:n])
		other := h
		other.Write("other")
		h.Write("this")
		if h.Sum() != librarySum(s[:n]+"this") || other.Sum() != librarySum(s[:n]+"other") {
			t.Errorf("copies behind %d bytes", n)
		}
	}
}

// P2.1: the length stands in bits, modulo 2^64, the highest byte first; texts so long can't be written in a test.
func TestPadding(t *testing.T) {
	for size, want := range map[uint64]string{
		0:             "\x80" + strings.Repeat("\x00", 55+8),
		55:            "\x80" + strings.Repeat("\x00", 6) + "\x01\xb8",
		56:            "\x80" + strings.Repeat("\x00", 63+6) + "\x01\xc0",
		63:            "\x80" + strings.Repeat("\x00", 56+6) + "\x01\xf8",
		64:            "\x80" + strings.Repeat("\x00", 55+6) + "\x02\x00",
		1<<29 + 55:    "\x80\x00\x00\x00\x01\x00\x00\x01\xb8",
		1<<60 + 55:    "\x80\x80\x00\x00\x00\x00\x00\x01\xb8",
		1<<61 + 55:    "\x80\x00\x00\x00\x00\x00\x00\x01\xb8",
		math.MaxInt32: "\x80" + strings.Repeat("\x00", 56) + "\x00\x00\x00\x03\xff\xff\xff\xf8",
	} {
		if got := padding(size); got != want {
			t.Errorf("padding(%d): %x", size, got)
		}
	}
}

// rootBits: the first 32 bits of the fractional part of the root of p, of the second or third degree.
func rootBits(p, degree int64) uint32 {
	aim := new(big.Int).Lsh(big.NewInt(p), uint(32*degree))
	low := new(big.Int)
	for bit := 40; bit >= 0; bit-- {
		more := new(big.Int).SetBit(low, bit, 1)
		if new(big.Int).Exp(more, big.NewInt(degree), nil).Cmp(aim) <= 0 {
			low = more
		}
	}
	return uint32(low.Uint64())
}

// P2.1: the constants are those that the document says.
func TestConstants(t *testing.T) {
	i := 0
	for p := int64(2); i < len(roots); p++ {
		if !big.NewInt(p).ProbablyPrime(10) {
			continue
		}
		if want := rootBits(p, 3); roots[i] != want {
			t.Errorf("cube root of %d: %x, not %x", p, roots[i], want)
		}
		if want := rootBits(p, 2); i < 8 && start()[i] != want {
			t.Errorf("square root of %d: %x, not %x", p, start()[i], want)
		}
		i++
	}
}
