package bits

import (
	"encoding/binary"
	"encoding/hex"
	"hash/crc32"
	"math"
	"math/rand/v2"
	"strings"
	"testing"
)

// dice: the same numbers in every run.
func dice() *rand.Rand {
	return rand.New(rand.NewPCG(1, 2))
}

func randomText(r *rand.Rand, n int) string {
	out := make([]byte, n)
	for i := range out {
		out[i] = byte(r.Uint32())
	}
	return string(out)
}

// numbers: the edges of bytes and of groups of seven bits, and some others.
func numbers() []uint64 {
	out := []uint64{0, 300, 258, math.MaxUint64}
	for i := range 64 {
		x := uint64(1) << i
		out = append(out, x-1, x, x+1)
	}
	r := dice()
	for range 500 {
		out = append(out, r.Uint64()>>(r.Uint32()%64))
	}
	return out
}

// P1.1
func TestPut(t *testing.T) {
	for _, c := range []struct {
		x    uint64
		n    int
		want string
	}{
		{258, 3, "\x02\x01\x00"},
		{258, 1, "\x02"},
		{258, 2, "\x02\x01"},
		{258, 0, ""},
		{258, -1, ""},
		{258, math.MinInt, ""},
		{0, 2, "\x00\x00"},
		{0x0102030405060708, 8, "\x08\x07\x06\x05\x04\x03\x02\x01"},
		{0x0102030405060708, 7, "\x08\x07\x06\x05\x04\x03\x02"},
		{math.MaxUint64, 9, "\xff\xff\xff\xff\xff\xff\xff\xff\x00"},
		{math.MaxUint64, 64, strings.Repeat("\xff", 8) + strings.Repeat("\x00", 56)},
	} {
		if got := Put(c.x, c.n); got != c.want {
			t.Errorf("Put(%d, %d): %x", c.x, c.n, got)
		}
	}
}

// P1.1
func TestGet(t *testing.T) {
	for s, want := range map[string]uint64{
		"":                                     0,
		"\x00":                                 0,
		"\x02\x01":                             258,
		"\x02\x01\x00\x00":                     258,
		"\x08\x07\x06\x05\x04\x03\x02\x01":     0x0102030405060708,
		"\x08\x07\x06\x05\x04\x03\x02\x01\x09": 0x0102030405060708,
		strings.Repeat("\xff", 8):              math.MaxUint64,
		strings.Repeat("\x00", 8) + "\x01":     0,
	} {
		if got := Get(s); got != want {
			t.Errorf("Get(%x): %d", s, got)
		}
	}
}

// P1.1
func TestPutIsGotAgain(t *testing.T) {
	for _, x := range numbers() {
		var whole [8]byte
		binary.LittleEndian.PutUint64(whole[:], x)
		for n := range 9 {
			if got := Put(x, n); got != string(whole[:n]) {
				t.Errorf("Put(%d, %d): %x", x, n, got)
			}
			want := x
			if n < 8 {
				want = x & (1<<(8*n) - 1)
			}
			if got := Get(Put(x, n)); got != want {
				t.Errorf("Get(Put(%d, %d)): %d", x, n, got)
			}
		}
		if got := Get(Put(x, 20)); got != x {
			t.Errorf("Get(Put(%d, 20)): %d", x, got)
		}
	}
}

// P1.2
func TestVar(t *testing.T) {
	for x, want := range map[uint64]string{
		0:              "\x00",
		1:              "\x01",
		127:            "\x7f",
		128:            "\x80\x01",
		300:            "\xac\x02",
		16383:          "\xff\x7f",
		16384:          "\x80\x80\x01",
		math.MaxUint64: "\xff\xff\xff\xff\xff\xff\xff\xff\xff\x01",
	} {
		if got := Var(x); got != want {
			t.Errorf("Var(%d): %x", x, got)
		}
	}
	for _, x := range numbers() {
		if got, want := Var(x), string(binary.AppendUvarint(nil, x)); got != want {
			t.Errorf("Var(%d): %x, not %x", x, got, want)
		}
	}
}

// P1.2
func TestUnvarOfVar(t *testing.T) {
	for _, x := range numbers() {
		s := Var(x)
		for _, behind := range []string{"", "\x00", "\x80", "\xff\xff", s} {
			if got, n := Unvar(s + behind); got != x || n != len(s) {
				t.Errorf("Unvar(%x and %x): %d, %d", s, behind, got, n)
			}
		}
		for n := range len(s) {
			if got, m := Unvar(s[:n]); got != 0 || m != 0 {
				t.Errorf("Unvar(%x), cut: %d, %d", s[:n], got, m)
			}
		}
	}
}

// P1.2
func TestUnvarOfNone(t *testing.T) {
	nine := strings.Repeat("\xff", 9)
	for _, s := range []string{
		"", "\x80", "\xff", "\x80\x00", "\x80\x00\x01", "\xff\x00", "\x80\x80\x00", "\xac\x82\x00",
		nine, nine + "\x00", nine + "\x02", nine + "\x03", nine + "\x7f", nine + "\x80", nine + "\x81",
		nine + "\x81\x00", nine + "\x81\x01", nine + "\xff\x01",
		strings.Repeat("\x80", 9) + "\x00", strings.Repeat("\x80", 9) + "\x02",
		strings.Repeat("\x80", 10) + "\x01", strings.Repeat("\x80", 64) + "\x01", strings.Repeat("\x80", 65) + "\x01",
		strings.Repeat("\x80", 1000),
	} {
		if x, n := Unvar(s); x != 0 || n != 0 {
			t.Errorf("Unvar(%x): %d, %d", s, x, n)
		}
	}
	if x, n := Unvar(strings.Repeat("\x80", 9) + "\x01\x80"); x != 1<<63 || n != 10 {
		t.Errorf("Unvar of 2^63: %d, %d", x, n)
	}
}

// asVar: what Unvar should say, by the library: its readings that are as short as can be.
func asVar(s string) (uint64, int) {
	x, n := binary.Uvarint([]byte(s))
	if n <= 0 || string(binary.AppendUvarint(nil, x)) != s[:n] {
		return 0, 0
	}
	return x, n
}

// P1.2
func TestUnvarOfAny(t *testing.T) {
	check := func(s string) {
		wantX, wantN := asVar(s)
		if x, n := Unvar(s); x != wantX || n != wantN {
			t.Fatalf("Unvar(%x): %d, %d, not %d, %d", s, x, n, wantX, wantN)
		}
	}
	for a := range 256 {
		check(string([]byte{byte(a)}))
		for b := range 256 {
			check(string([]byte{byte(a), byte(b)}))
			check(string([]byte{byte(a), byte(b), 0}))
			check(string([]byte{byte(a), byte(b), 1}))
		}
	}
	r := dice()
	for range 20000 {
		s := []byte(randomText(r, int(r.Uint32()%13)))
		for i := range s {
			if r.Uint32()%8 != 0 {
				s[i] |= 0x80
			} else {
				s[i] &= 3
			}
		}
		check(string(s))
	}
}

// P1.3
func TestHex(t *testing.T) {
	if got := Hex(""); got != "" {
		t.Errorf("Hex of nothing: %q", got)
	}
	r := dice()
	for n := range 70 {
		s := randomText(r, n)
		if got, want := Hex(s), hex.EncodeToString([]byte(s)); got != want {
			t.Errorf("Hex: %q, not %q", got, want)
		}
		if got, ok := Unhex(Hex(s)); got != s || !ok {
			t.Errorf("Unhex(Hex(%x)): %x, %v", s, got, ok)
		}
	}
}

// P1.3: every text of two bytes.
func TestUnhexOfPairs(t *testing.T) {
	bytes := map[string]string{}
	for b := range 256 {
		s := string([]byte{byte(b)})
		bytes[hex.EncodeToString([]byte(s))] = s
	}
	for a := range 256 {
		for b := range 256 {
			s := string([]byte{byte(a), byte(b)})
			want, is := bytes[s]
			if got, ok := Unhex(s); got != want || ok != is {
				t.Errorf("Unhex(%q): %q, %v", s, got, ok)
			}
		}
	}
}

// P1.3
func TestUnhexOfNone(t *testing.T) {
	for _, s := range []string{
		"0", "000", "0G", "g0", "AB", "aB", "Ab", "00FF", "ff0", "0x", " 0", "0 ", "00 ", "+0", "-0",
		"é", "é0", "0é", "é00", "00é", "\uff10", "\uff10\uff11", "\u0660", "\u0660\u0661", "\u0130", "\u0161",
		"\xff", "\xff0", "0\xff", "\xff\xff", "\ufffd0", "00\x00\x00", "\x00", "/0", ":0", "`0", "g0",
		strings.Repeat("0", 63), strings.Repeat("0", 63) + "F", "F" + strings.Repeat("0", 63),
	} {
		if got, ok := Unhex(s); got != "" || ok {
			t.Errorf("Unhex(%q): %q, %v", s, got, ok)
		}
	}
	if got, ok := Unhex(""); got != "" || !ok {
		t.Errorf("Unhex of nothing: %q, %v", got, ok)
	}
	if got, ok := Unhex("00ff9a"); got != "\x00\xff\x9a" || !ok {
		t.Errorf("Unhex: %q, %v", got, ok)
	}
}

// P1.4
func TestCrc32(t *testing.T) {
	for s, want := range map[string]uint32{
		"":          0,
		"\x00":      0xd202ef8d,
		"a":         0xe8b7be43,
		"123456789": 0xcbf43926,
	} {
		if got := Crc32(s); got != want {
			t.Errorf("Crc32(%q): %x", s, got)
		}
	}
	r := dice()
	for n := range 300 {
		s := randomText(r, n)
		if got, want := Crc32(s), crc32.ChecksumIEEE([]byte(s)); got != want {
			t.Errorf("Crc32 of %d bytes: %x, not %x", n, got, want)
		}
	}
}

// P1.4
func TestCrcGoesOn(t *testing.T) {
	if got := Crc(Crc32("1234"), "56789"); got != 0xcbf43926 {
		t.Errorf("Crc: %x", got)
	}
	r := dice()
	s := randomText(r, 100)
	for i := range len(s) + 1 {
		if got, want := Crc(Crc32(s[:i]), s[i:]), Crc32(s); got != want {
			t.Errorf("Crc, cut at %d: %x, not %x", i, got, want)
		}
	}
	for range 100 {
		c := r.Uint32()
		if got := Crc(c, ""); got != c {
			t.Errorf("Crc(%x) and nothing: %x", c, got)
		}
		if got, want := Crc(c, s), crc32.Update(c, crc32.IEEETable, []byte(s)); got != want {
			t.Errorf("Crc(%x): %x, not %x", c, got, want)
		}
	}
}

// P1.4
func TestTable(t *testing.T) {
	if got := Table(); got != [256]uint32(*crc32.IEEETable) {
		t.Errorf("Table: %x", got)
	}
}

// K3, K4: an answer that is changed doesn't show in the next one.
func TestAnswersAreNew(t *testing.T) {
	first := Table()
	first[1] = 0
	if Table()[1] != 0x77073096 || Crc32("a") != 0xe8b7be43 {
		t.Error("Table shares its memory")
	}
}
