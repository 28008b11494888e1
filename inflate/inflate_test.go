package inflate

import (
	"bytes"
	"compress/flate"
	"errors"
	"io"
	"math"
	"math/rand/v2"
	"slices"
	"strings"
	"testing"

	"cellarer/api"
	"cellarer/bitio"
	"cellarer/huff"
	"cellarer/match"
)

// dice: the same numbers in every run.
func dice() *rand.Rand {
	return rand.New(rand.NewPCG(9, 10))
}

// randomText: n bytes, each one of the first few.
func randomText(r *rand.Rand, n, few int) string {
	out := make([]byte, n)
	for i := range out {
		out[i] = byte(r.IntN(few))
	}
	return string(out)
}

// libraryStream: a text as the library deflates it.
func libraryStream(t *testing.T, s string, level int) string {
	t.Helper()
	var out bytes.Buffer
	w, err := flate.NewWriter(&out, level)
	if err != nil {
		t.Fatal(err)
	}
	if _, err := io.WriteString(w, s); err != nil {
		t.Fatal(err)
	}
	if err := w.Close(); err != nil {
		t.Fatal(err)
	}
	return out.String()
}

// libraryText: what the library inflates, at most 65537 bytes, and how many bytes it took.
func libraryText(s string) (string, int, error) {
	x := strings.NewReader(s)
	out, err := io.ReadAll(io.LimitReader(flate.NewReader(x), api.MaxOut+1))
	return string(out), len(s) - x.Len(), err
}

// pen writes streams bit by bit.
type pen struct {
	bitio.Sink
}

// codes puts the codes of symbols, by their lengths.
func (p *pen) codes(t *testing.T, lengths []int, symbols ...int) {
	t.Helper()
	l, e := huff.Codes(lengths)
	if e != api.OK {
		t.Fatalf("Codes(%v): %d", lengths, e)
	}
	for _, symbol := range symbols {
		if l[symbol].Len == 0 {
			t.Fatalf("symbol %d has no code", symbol)
		}
		p.Turn(l[symbol].Bits, l[symbol].Len)
	}
}

// head puts a block's first bits.
func (p *pen) head(last bool, kind int) {
	if last {
		p.Put(1, 1)
	} else {
		p.Put(0, 1)
	}
	p.Put(uint32(kind), 2)
}

// fixed puts codes of a fixed block's bytes and sizes; far: of its distances.
func (p *pen) fixed(t *testing.T, symbols ...int) {
	t.Helper()
	p.codes(t, rfcSymbols(), symbols...)
}

func (p *pen) far(n int) {
	p.Turn(uint32(n), 5)
}

// rfcSymbols: RFC 1951, 3.2.6.
func rfcSymbols() []int {
	var out []int
	for i := range 288 {
		switch {
		case i <= 143:
			out = append(out, 8)
		case i <= 255:
			out = append(out, 9)
		case i <= 279:
			out = append(out, 7)
		default:
			out = append(out, 8)
		}
	}
	return out
}

// rfcOrder: RFC 1951, 3.2.7.
var rfcOrder = []int{16, 17, 18, 0, 8, 7, 9, 6, 10, 5, 11, 4, 12, 3, 13, 2, 14, 1, 15}

// rfcSizes, rfcFars: RFC 1951, 3.2.5: the least one and its bits.
var rfcSizes = [][2]int{
	{3, 0}, {4, 0}, {5, 0}, {6, 0}, {7, 0}, {8, 0}, {9, 0}, {10, 0}, {11, 1}, {13, 1}, {15, 1}, {17, 1}, {19, 2}, {23, 2}, {27, 2},
	{31, 2}, {35, 3}, {43, 3}, {51, 3}, {59, 3}, {67, 4}, {83, 4}, {99, 4}, {115, 4}, {131, 5}, {163, 5}, {195, 5}, {227, 5}, {258, 0},
}

var rfcFars = [][2]int{
	{1, 0}, {2, 0}, {3, 0}, {4, 0}, {5, 1}, {7, 1}, {9, 2}, {13, 2}, {17, 3}, {25, 3}, {33, 4}, {49, 4}, {65, 5}, {97, 5}, {129, 6},
	{193, 6}, {257, 7}, {385, 7}, {513, 8}, {769, 8}, {1025, 9}, {1537, 9}, {2049, 10}, {3073, 10}, {4097, 11}, {6145, 11}, {8193, 12},
	{12289, 12}, {16385, 13}, {24577, 13},
}

// repeat puts a repeat of a fixed block.
func (p *pen) repeat(t *testing.T, size, dist int) {
	t.Helper()
	i, j := 28, 29
	for size < rfcSizes[i][0] {
		i--
	}
	for dist < rfcFars[j][0] {
		j--
	}
	p.fixed(t, 257+i)
	p.Put(uint32(size-rfcSizes[i][0]), rfcSizes[i][1])
	p.far(j)
	p.Put(uint32(dist-rfcFars[j][0]), rfcFars[j][1])
}

// step is a symbol of a row of lengths, with the number that its bits say.
type step struct {
	symbol, more int
}

// counts puts a dynamic block's counts, as they are (not less anything).
func (p *pen) counts(symbols, fars, firsts int) {
	p.Put(uint32(symbols-257), 5)
	p.Put(uint32(fars-1), 5)
	p.Put(uint32(firsts-4), 4)
}

// firsts puts the first n first lengths.
func (p *pen) firsts(lengths []int, n int) {
	for _, symbol := range rfcOrder[:n] {
		p.Put(uint32(lengths[symbol]), 3)
	}
}

// steps puts a row of lengths.
func (p *pen) steps(t *testing.T, firsts []int, l ...step) {
	t.Helper()
	for _, x := range l {
		p.codes(t, firsts, x.symbol)
		p.Put(uint32(x.more), map[int]int{16: 2, 17: 3, 18: 7}[x.symbol])
	}
}

// plainSteps: each length by itself.
func plainSteps(lengths ...[]int) []step {
	var out []step
	for _, n := range slices.Concat(lengths...) {
		out = append(out, step{symbol: n})
	}
	return out
}

// evenFirsts: first lengths by which every symbol has a code.
func evenFirsts() []int {
	return []int{4, 4, 4, 4, 4, 4, 4, 4, 4, 4, 4, 4, 4, 5, 5, 5, 5, 5, 5}
}

// dynamic puts a dynamic block's codes, each length by itself.
func (p *pen) dynamic(t *testing.T, symbols, fars []int) {
	t.Helper()
	p.counts(len(symbols), len(fars), 19)
	p.firsts(evenFirsts(), 19)
	p.steps(t, evenFirsts(), plainSteps(symbols, fars)...)
}

// lengthsWith: n lengths, 0 but where they are told.
func lengthsWith(n int, told map[int]int) []int {
	out := make([]int, n)
	for symbol, length := range told {
		out[symbol] = length
	}
	return out
}

func bytesAs(s string) []match.Token {
	var out []match.Token
	for i := range len(s) {
		out = append(out, match.Token{Byte: s[i]})
	}
	return out
}

func repeat(n, dist int) match.Token {
	return match.Token{Len: n, Dist: dist}
}

func sameBlocks(a, b []Block) bool {
	return slices.EqualFunc(a, b, func(x, y Block) bool {
		return x.Kind == y.Kind && x.Bytes == y.Bytes && slices.Equal(x.Tokens, y.Tokens)
	})
}

// checkError: Blocks and Inflate answer this error, and nothing beside it.
func checkError(t *testing.T, s string, at, most int, want api.Errno) {
	t.Helper()
	if l, n, e := Blocks(s, at, most); len(l) != 0 || n != 0 || e != want {
		t.Errorf("Blocks of %d bytes, %d, %d: %d blocks, %d, %d, not %d", len(s), at, most, len(l), n, e, want)
	}
	if text, n, e := Inflate(s, at, most); text != "" || n != 0 || e != want {
		t.Errorf("Inflate of %d bytes, %d, %d: %.20q, %d, %d, not %d", len(s), at, most, text, n, e, want)
	}
}

// checkStream: a stream has these blocks, wherever it stands, needs all of its bytes, and brings no byte more than it says.
func checkStream(t *testing.T, s string, want []Block, text string) {
	t.Helper()
	for _, ahead := range []string{"", "\x07", "\xff\xff\xff"} {
		for _, behind := range []string{"", "\x00", "\xff\x01\x02\x03\x04\x05\x06\x07"} {
			l, n, e := Blocks(ahead+s+behind, len(ahead), len(text))
			if !sameBlocks(l, want) || n != len(s) || e != api.OK {
				t.Fatalf("Blocks of %d bytes: %.300v, %d, %d, not %.300v", len(s), l, n, e, want)
			}
			got, n, e := Inflate(ahead+s+behind, len(ahead), len(text))
			if got != text || n != len(s) || e != api.OK {
				t.Fatalf("Inflate of %d bytes: %.40q, %d, %d, not %.40q", len(s), got, n, e, text)
			}
		}
	}
	if len(text) > 0 {
		checkError(t, s, 0, len(text)-1, api.ErrBig)
		checkError(t, s, 0, 0, api.ErrBig)
	}
	checkCut(t, s, len(text))
}

// checkCut: ahead of its last byte a stream has no end.
func checkCut(t *testing.T, s string, most int) {
	t.Helper()
	for n := 0; n < len(s); n += 1 + n/10 {
		checkError(t, s[:n], 0, most, api.ErrEnd)
		checkError(t, "\x03\x00\x07"+s[:n], 3, most, api.ErrEnd)
	}
	checkError(t, s[:len(s)-1], 0, most, api.ErrEnd)
}

// P6.1: the document's examples.
func TestExamples(t *testing.T) {
	checkStream(t, "\x03\x00", []Block{{Kind: Fixed}}, "")
	checkStream(t, "\x4b\x04\x00", []Block{{Kind: Fixed, Tokens: bytesAs("a")}}, "a")
	checkStream(t, "\x01\x02\x00\xfd\xff\x61\x62", []Block{{Kind: Stored, Bytes: "ab"}}, "ab")
	checkError(t, "\x4b\x04\x00", 0, 0, api.ErrBig)
	checkError(t, "\x4b\x04", 0, 9, api.ErrEnd)
	checkError(t, "\x07", 0, 9, api.ErrText)
	checkError(t, "\x01\x02\x00\xfd\xfe\x61\x62", 0, 9, api.ErrText)
	checkError(t, "\x01\x02\x00\xfd\xff\x61", 0, 9, api.ErrEnd)
}

// P6.1: numbers outside their ranges, ahead of all else.
func TestWrongNumbers(t *testing.T) {
	good := "\x4b\x04\x00"
	for _, at := range []int{-1, 4, math.MinInt, math.MaxInt} {
		checkError(t, good, at, 9, api.ErrArg)
	}
	for _, most := range []int{-1, api.MaxOut + 1, math.MinInt, math.MaxInt} {
		checkError(t, good, 0, most, api.ErrArg)
		checkError(t, "", 0, most, api.ErrArg)
		checkError(t, "\x07", 0, most, api.ErrArg)
	}
	checkError(t, "", 1, 9, api.ErrArg)
	checkError(t, good, 3, 9, api.ErrEnd)
	checkError(t, "", 0, 0, api.ErrEnd)
	if text, n, e := Inflate(good, 0, api.MaxOut); text != "a" || n != 3 || e != api.OK {
		t.Errorf("with MaxOut: %q, %d, %d", text, n, e)
	}
}

// P6.2
func TestLengthsAndOrder(t *testing.T) {
	symbols, fars := Lengths()
	if !slices.Equal(symbols, rfcSymbols()) || !slices.Equal(fars, slices.Repeat([]int{5}, 32)) {
		t.Errorf("Lengths: %v, %v", symbols, fars)
	}
	if !slices.Equal(Order(), rfcOrder) {
		t.Errorf("Order: %v", Order())
	}
	clear(symbols)
	clear(fars)
	clear(Order())
	again, farsAgain := Lengths()
	if !slices.Equal(again, rfcSymbols()) || farsAgain[31] != 5 || !slices.Equal(Order(), rfcOrder) {
		t.Error("answers share memory")
	}
	checkStream(t, "\x4b\x04\x00", []Block{{Kind: Fixed, Tokens: bytesAs("a")}}, "a")
}

// P6.2
func TestSize(t *testing.T) {
	for i, want := range rfcSizes {
		if n, bits := Size(i, false); n != want[0] || bits != want[1] {
			t.Errorf("Size(%d, false): %d, %d", i, n, bits)
		}
	}
	for i, want := range rfcFars {
		if n, bits := Size(i, true); n != want[0] || bits != want[1] {
			t.Errorf("Size(%d, true): %d, %d", i, n, bits)
		}
	}
	for _, i := range []int{-1, -5, 30, 31, 100, math.MinInt, math.MaxInt} {
		for _, far := range []bool{false, true} {
			if n, bits := Size(i, far); n != 0 || bits != 0 {
				t.Errorf("Size(%d, %v): %d, %d", i, far, n, bits)
			}
		}
	}
	if n, bits := Size(29, false); n != 0 || bits != 0 {
		t.Errorf("Size(29, false): %d, %d", n, bits)
	}
}

// P6.1: stored blocks, behind bits of any number that go by, which may be any.
func TestStored(t *testing.T) {
	checkStream(t, "\x01\x00\x00\xff\xff", []Block{{}}, "")
	checkStream(t, "\xf9\x03\x00\xfc\xffabc", []Block{{Bytes: "abc"}}, "abc")
	checkStream(t, "\x00\x01\x00\xfe\xffa\x00\x00\x00\xff\xff\x01\x02\x00\xfd\xffbc", []Block{{Bytes: "a"}, {}, {Bytes: "bc"}}, "abc")
	r := dice()
	for bits := range 8 {
		// So many codes of nine bits go ahead, and the end's seven.
		var p pen
		p.head(false, Fixed)
		p.fixed(t, slices.Repeat([]int{200}, bits)...)
		p.fixed(t, 256)
		p.head(true, Stored)
		p.Put(math.MaxUint32, (8-p.Count()%8)%8)
		text := randomText(r, 300, 256)
		p.Text("\x2c\x01\xd3\xfe" + text)
		ahead := strings.Repeat("\xc8", bits)
		checkStream(t, p.All(), []Block{{Kind: Fixed, Tokens: bytesAs(ahead)}, {Bytes: text}}, ahead+text)
	}
	long := randomText(r, 65535, 256)
	checkStream(t, "\x01\xff\xff\x00\x00"+long, []Block{{Bytes: long}}, long)
	checkStream(t, "\x00\xff\xff\x00\x00"+long+"\x01\x01\x00\xfe\xffz", []Block{{Bytes: long}, {Bytes: "z"}}, long+"z")
	checkError(t, "\x00\xff\xff\x00\x00"+long+"\x01\x02\x00\xfd\xffyz", 0, api.MaxOut, api.ErrBig)
}

// P6.1: of a stored block: what is wanting ahead of what is wrong, and that ahead of what is too much.
func TestWrongStored(t *testing.T) {
	for _, c := range []struct {
		s    string
		most int
		want api.Errno
	}{
		{"\x01", 9, api.ErrEnd}, {"\x01\x02", 9, api.ErrEnd}, {"\x01\x02\x00", 9, api.ErrEnd}, {"\x01\x02\x00\xfd", 9, api.ErrEnd},
		{"\x01\x02\x00\xfc", 9, api.ErrEnd}, {"\x01\x02\x00\xfc\xff", 9, api.ErrText}, {"\x01\x02\x00\x02\x00ab", 9, api.ErrText},
		{"\x01\x00\x00\x00\x00", 9, api.ErrText}, {"\x01\xff\xff\xff\xff", 9, api.ErrText}, {"\x01\x02\x00\xfd\x7fab", 9, api.ErrText},
		{"\x01\x02\x00\xfd\xff", 0, api.ErrEnd}, {"\x01\x02\x00\xfd\xffa", 0, api.ErrEnd}, {"\x01\x02\x00\xfd\xffa", 1, api.ErrEnd},
		{"\x01\x02\x00\xfd\xffab", 1, api.ErrBig}, {"\x01\x02\x00\xfd\xffab", 0, api.ErrBig}, {"\x01\xff\xff\x00\x00", 0, api.ErrEnd},
		{"\x00\x02\x00\xfd\xffab", 9, api.ErrEnd}, {"\x00\x02\x00\xfd\xffab", 1, api.ErrBig}, {"\x00\x02\x00\xfd\xffab\x07", 9, api.ErrText},
		{"\x00\x02\x00\xfd\xffab\x07", 1, api.ErrBig},
	} {
		checkError(t, c.s, 0, c.most, c.want)
	}
}

// P6.1: every byte, every size and every distance of a fixed block, at both ends of what its bits say.
func TestFixed(t *testing.T) {
	text := randomText(dice(), 32768, 256)
	want := []Block{{Kind: Fixed, Tokens: bytesAs(text)}, {Kind: Fixed}}
	var p pen
	p.head(false, Fixed)
	var symbols []int
	for i := range len(text) {
		symbols = append(symbols, int(text[i]))
	}
	p.fixed(t, append(symbols, 256)...)
	p.head(true, Fixed)
	add := func(i, more, j, far int) {
		size, dist := rfcSizes[i][0]+more, rfcFars[j][0]+far
		p.fixed(t, 257+i)
		p.Put(uint32(more), rfcSizes[i][1])
		p.far(j)
		p.Put(uint32(far), rfcFars[j][1])
		want[1].Tokens = append(want[1].Tokens, repeat(size, dist))
		for range size {
			text += text[len(text)-dist:][:1]
		}
	}
	for i, size := range rfcSizes {
		// Number 27 with all bits is 258, as number 28 is.
		add(i, 0, i, 0)
		add(i, 1<<size[1]-1, 29-i, 1<<rfcFars[29-i][1]-1)
	}
	add(0, 0, 29, 8191)
	add(28, 0, 0, 0)
	add(28, 0, 29, 0)
	p.fixed(t, 256)
	checkStream(t, p.All(), want, text)
	if got, _, err := libraryText(p.All()); got != text || err != nil {
		t.Errorf("the library: %d bytes, %v", len(got), err)
	}
}

// P6.1: repeats reach over the blocks' ends, of all kinds.
func TestRepeatsOverBlocks(t *testing.T) {
	var p pen
	p.head(false, Stored)
	p.Text("\x03\x00\xfc\xffabc")
	p.head(false, Fixed)
	p.repeat(t, 4, 3)
	p.fixed(t, 256)
	p.head(false, Stored)
	p.Text("\x01\x00\xfe\xffx")
	symbols := lengthsWith(260, map[int]int{'z': 2, 256: 2, 257: 2, 259: 2})
	p.head(false, Dynamic)
	p.dynamic(t, symbols, []int{0, 0, 0, 0, 0, 1})
	p.codes(t, symbols, 'z', 259)
	p.codes(t, []int{0, 0, 0, 0, 0, 1}, 5)
	p.Put(1, 1)
	p.codes(t, symbols, 256)
	p.head(true, Fixed)
	p.repeat(t, 14, 14)
	p.fixed(t, 256)
	text := "abcabcaxzbcabc"
	checkStream(t, p.All(), []Block{
		{Bytes: "abc"}, {Kind: Fixed, Tokens: []match.Token{repeat(4, 3)}}, {Bytes: "x"},
		{Kind: Dynamic, Tokens: []match.Token{{Byte: 'z'}, repeat(5, 8)}}, {Kind: Fixed, Tokens: []match.Token{repeat(14, 14)}},
	}, text+text)
}

// P6.1: a row of lengths with all symbols: a repeat of a length goes over from bytes and sizes to distances.
func TestRow(t *testing.T) {
	firsts := lengthsWith(19, map[int]int{0: 3, 2: 3, 3: 2, 16: 3, 17: 3, 18: 2})
	symbols := lengthsWith(270, map[int]int{'a': 3, 'b': 3, 'c': 3, 'd': 3, 256: 3, 257: 3, 268: 3, 269: 3})
	fars := []int{3, 3, 3, 3, 2, 0, 0, 0, 0, 0, 2}
	var p pen
	p.head(true, Dynamic)
	p.counts(270, 11, 16)
	p.firsts(firsts, 16)
	p.steps(t, firsts, step{18, 97 - 11}, step{3, 0}, step{16, 0}) // to 100
	p.steps(t, firsts, step{18, 127}, step{18, 5}, step{0, 0})     // to 255
	p.steps(t, firsts, step{3, 0}, step{3, 0}, step{17, 7})        // to 267
	p.steps(t, firsts, step{3, 0}, step{16, 2})                    // to 269, and four distances
	p.steps(t, firsts, step{2, 0}, step{17, 2}, step{2, 0})
	p.codes(t, symbols, 'a', 'b', 'c', 'd', 268)
	p.Put(1, 1)
	p.codes(t, fars, 3)
	p.codes(t, symbols, 269)
	p.Put(3, 2)
	p.codes(t, fars, 4)
	p.Put(1, 1)
	p.codes(t, symbols, 257)
	p.codes(t, fars, 10)
	p.Put(9, 4)
	p.codes(t, symbols, 256)
	tokens := append(bytesAs("abcd"), repeat(18, 4), repeat(22, 6), repeat(3, 42))
	text := "abcdabcdabcdabcdabcdab" + "abcdab" + "abcdab" + "abcdab" + "abcd" + "cda"
	checkStream(t, p.All(), []Block{{Kind: Dynamic, Tokens: tokens}}, text)
}

// P6.1: the greatest counts, the least ones, codes of all lengths, and codes that are alone or wanting.
func TestDynamic(t *testing.T) {
	long := map[int]int{}
	for i := range 15 {
		long['a'+i] = i + 1
	}
	long[256] = 15
	for i, c := range []struct {
		symbols, fars []int
		text          string
	}{
		{lengthsWith(257, map[int]int{256: 1}), []int{0}, ""},
		{lengthsWith(257, map[int]int{256: 1}), []int{1}, ""},
		{lengthsWith(286, map[int]int{256: 1}), make([]int, 30), ""},
		{lengthsWith(257, map[int]int{'a': 1, 256: 1}), []int{1}, "aaaa"},
		{lengthsWith(286, map[int]int{'a': 1, 'b': 2, 256: 3, 285: 3}), lengthsWith(30, map[int]int{29: 1}), "abba"},
		{lengthsWith(286, long), lengthsWith(30, map[int]int{0: 1, 28: 2, 29: 2}), "abcdefghijklmnoaaa"},
		{lengthsWith(257, long), lengthsWith(1, nil), "onmlkjihgfedcba"},
	} {
		var p pen
		p.head(true, Dynamic)
		p.dynamic(t, c.symbols, c.fars)
		for _, b := range c.text {
			p.codes(t, c.symbols, int(b))
		}
		p.codes(t, c.symbols, 256)
		checkStream(t, p.All(), []Block{{Kind: Dynamic, Tokens: bytesAs(c.text)}}, c.text)
		if got, _, err := libraryText(p.All()); got != c.text || err != nil {
			t.Errorf("number %d, the library: %q, %v", i, got, err)
		}
	}
}

// checkFault: put writes a block up to the bit by which the fault is met: with that bit it is told, whatever follows; without it the end is.
// Bytes go ahead, so that this bit stands at each place of a byte; put is told how many, and most more may come out.
func checkFault(t *testing.T, what string, most int, want api.Errno, put func(p *pen, out int)) {
	t.Helper()
	for out := range 8 {
		var p pen
		p.head(false, Fixed)
		p.fixed(t, slices.Repeat([]int{200}, out)...) // nine bits each
		p.fixed(t, 256)
		put(&p, out)
		s := p.All()
		behind := p
		behind.Put(math.MaxUint32, 32)
		for _, whole := range []string{s, behind.All(), s + "\x00\x00\x00\x00"} {
			if l, n, e := Blocks(whole, 0, out+most); len(l) != 0 || n != 0 || e != want {
				t.Errorf("%s, %d ahead: %d blocks, %d, %d, not %d", what, out, len(l), n, e, want)
			}
			checkError(t, "ab"+whole, 2, out+most, want)
		}
		if p.Count()%8 == 1 {
			checkError(t, s[:len(s)-1], 0, out+most, api.ErrEnd)
		}
	}
}

// P6.1: a Kind 3, and counts that aren't allowed, once all three were taken.
func TestWrongCounts(t *testing.T) {
	for _, last := range []bool{false, true} {
		checkFault(t, "Kind 3", 9, api.ErrText, func(p *pen, _ int) { p.head(last, 3) })
	}
	for _, c := range [][3]int{{287, 1, 4}, {288, 1, 19}, {257, 31, 4}, {257, 32, 19}, {286, 31, 19}, {287, 30, 19}, {288, 32, 19}} {
		checkFault(t, "counts", 9, api.ErrText, func(p *pen, _ int) {
			p.head(true, Dynamic)
			p.counts(c[0], c[1], c[2])
		})
	}
}

// P6.1: first lengths that don't fit, once all were taken; first codes that are alone or wanting.
func TestWrongFirsts(t *testing.T) {
	for _, told := range []map[int]int{{16: 1, 17: 1, 18: 1}, {16: 2}, {0: 7}, {16: 1, 17: 2}, {16: 2, 17: 2, 18: 2}, {16: 1, 17: 1, 0: 7}} {
		for _, n := range []int{4, 5, 19} {
			checkFault(t, "first lengths", 9, api.ErrText, func(p *pen, _ int) {
				p.head(true, Dynamic)
				p.counts(257, 1, n)
				p.firsts(lengthsWith(19, told), n)
			})
		}
	}
	checkFault(t, "the last one of the first lengths", 9, api.ErrText, func(p *pen, _ int) {
		p.head(true, Dynamic)
		p.counts(257, 1, 19)
		p.firsts(lengthsWith(19, map[int]int{0: 1, 18: 1, 15: 7}), 19)
	})
	for bit := range uint32(2) {
		checkFault(t, "no first codes", 9, api.ErrText, func(p *pen, _ int) {
			p.head(true, Dynamic)
			p.counts(257, 1, 4)
			p.firsts(make([]int, 19), 4)
			p.Put(bit, 1)
		})
	}
	checkFault(t, "a lone first code", 9, api.ErrText, func(p *pen, _ int) {
		p.head(true, Dynamic)
		p.counts(257, 1, 19)
		p.firsts(lengthsWith(19, map[int]int{7: 1}), 19)
		p.Put(0, 5)
		p.Put(1, 1)
	})
}

// P6.1: a row that begins with symbol 16, or goes on too far, or has no length for 256.
func TestWrongRow(t *testing.T) {
	begin := func(p *pen, symbols, fars int) {
		p.head(true, Dynamic)
		p.counts(symbols, fars, 19)
		p.firsts(evenFirsts(), 19)
	}
	checkFault(t, "symbol 16 first", 9, api.ErrText, func(p *pen, _ int) {
		begin(p, 257, 1)
		p.codes(t, evenFirsts(), 16)
	})
	ahead := plainSteps(lengthsWith(257, map[int]int{'a': 1, 256: 1}))
	for _, c := range []struct {
		fars int
		last step
	}{{2, step{16, 0}}, {5, step{16, 3}}, {1, step{16, 3}}, {2, step{17, 0}}, {9, step{17, 7}}, {10, step{18, 0}}, {1, step{18, 127}}, {30, step{18, 20}}} {
		checkFault(t, "a row too long", 9, api.ErrText, func(p *pen, _ int) {
			begin(p, 257, c.fars)
			p.steps(t, evenFirsts(), ahead...)
			p.steps(t, evenFirsts(), c.last)
		})
	}
	checkFault(t, "a row too long by far", 9, api.ErrText, func(p *pen, _ int) {
		begin(p, 257, 1)
		p.steps(t, evenFirsts(), step{18, 127}, step{18, 127})
	})
	for _, symbols := range [][]int{make([]int, 257), lengthsWith(257, map[int]int{'a': 1, 'b': 1}), lengthsWith(286, map[int]int{'a': 1, 257: 1})} {
		checkFault(t, "no length of 256", 9, api.ErrText, func(p *pen, _ int) {
			begin(p, len(symbols), 1)
			p.steps(t, evenFirsts(), plainSteps(symbols, []int{1})...)
		})
	}
	checkFault(t, "a distance's length in place of that of 256", 9, api.ErrText, func(p *pen, _ int) {
		begin(p, 257, 1)
		p.steps(t, evenFirsts(), plainSteps(lengthsWith(256, map[int]int{'a': 1, 'b': 1}), []int{0, 1})...)
	})
}

// P6.1: lengths that don't fit, once the row is whole.
func TestWrongLengths(t *testing.T) {
	good := lengthsWith(257, map[int]int{'a': 1, 256: 1})
	for _, c := range [][2][]int{
		{lengthsWith(257, map[int]int{256: 2}), {0}},
		{lengthsWith(257, map[int]int{256: 15}), {1}},
		{lengthsWith(257, map[int]int{'a': 2, 256: 1}), {1}},
		{lengthsWith(257, map[int]int{'a': 1, 'b': 1, 256: 1}), {1, 1}},
		{lengthsWith(258, map[int]int{'a': 1, 256: 1, 257: 15}), {1}},
		{good, {2}},
		{good, {15}},
		{good, {1, 1, 1}},
		{good, {1, 2}},
		{good, {2, 2, 2}},
		{lengthsWith(257, map[int]int{256: 2}), {2}},
	} {
		checkFault(t, "lengths", 9, api.ErrText, func(p *pen, _ int) {
			p.head(true, Dynamic)
			p.dynamic(t, c[0], c[1])
		})
	}
}

// P6.1: bits that begin no code, in a block's tokens.
func TestNoCode(t *testing.T) {
	checkFault(t, "a lone symbol", 9, api.ErrText, func(p *pen, _ int) {
		p.head(true, Dynamic)
		p.dynamic(t, lengthsWith(257, map[int]int{256: 1}), []int{1})
		p.Put(1, 1)
	})
	symbols := lengthsWith(286, map[int]int{'a': 1, 256: 2, 284: 2})
	for bit := range uint32(2) {
		checkFault(t, "no distances", 999, api.ErrText, func(p *pen, _ int) {
			p.head(true, Dynamic)
			p.dynamic(t, symbols, []int{0, 0, 0})
			p.codes(t, symbols, 'a', 'a', 'a', 284)
			p.Put(7, 5)
			p.Put(bit, 1)
		})
	}
	checkFault(t, "a lone distance", 999, api.ErrText, func(p *pen, _ int) {
		p.head(true, Dynamic)
		p.dynamic(t, symbols, []int{0, 0, 1})
		p.codes(t, symbols, 'a', 'a', 'a', 284)
		p.Put(7, 5)
		p.Put(0, 1)
		p.codes(t, symbols, 284)
		p.Put(31, 5)
		p.Put(1, 1)
	})
}

// P6.1: symbols of sizes and of distances that there aren't, when they were taken.
func TestNoSize(t *testing.T) {
	for _, symbol := range []int{286, 287} {
		checkFault(t, "a size", 9, api.ErrText, func(p *pen, _ int) {
			p.head(true, Fixed)
			p.fixed(t, 'a', 'b', symbol)
		})
	}
	for _, number := range []int{30, 31} {
		checkFault(t, "a distance", 999, api.ErrText, func(p *pen, _ int) {
			p.head(true, Fixed)
			p.fixed(t, 'a', 'b', 270)
			p.Put(3, 2)
			p.far(number)
		})
	}
}

// P6.1: a distance that goes back too far, when its bits were taken, ahead of ErrBig; and one that doesn't.
func TestTooFar(t *testing.T) {
	for _, most := range []int{20, 999} {
		for more := 1; more <= 8; more++ {
			checkFault(t, "too far", most, api.ErrText, func(p *pen, out int) {
				p.head(true, Fixed)
				p.fixed(t, 'a', 'b', 'c', 'd', 'e', 'f')
				p.repeat(t, 10, out+6)
				p.repeat(t, 100, out+16+more)
			})
		}
	}
	checkFault(t, "the greatest distance", 65000, api.ErrText, func(p *pen, out int) {
		p.head(false, Fixed)
		p.fixed(t, 'a')
		for range 126 {
			p.repeat(t, 258, 1)
		}
		p.repeat(t, 258-out, 1)
		p.fixed(t, 256)
		p.head(true, Fixed)
		// 32767 bytes have come out.
		p.repeat(t, 3, 32768)
	})
}

// P6.1: more than most, by the token that brings it, at its last bit.
func TestTooBig(t *testing.T) {
	checkFault(t, "a byte", 2, api.ErrBig, func(p *pen, _ int) {
		p.head(true, Fixed)
		p.fixed(t, 'a', 'b', 'c')
	})
	checkFault(t, "a long code", 0, api.ErrBig, func(p *pen, _ int) {
		p.head(true, Fixed)
		p.fixed(t, 255)
	})
	for most := 2; most < 260; most++ {
		checkFault(t, "a repeat", most, api.ErrBig, func(p *pen, out int) {
			p.head(true, Fixed)
			p.fixed(t, 'a', 'b')
			p.repeat(t, 258, out+2)
		})
	}
	checkFault(t, "a repeat behind a repeat", 10, api.ErrBig, func(p *pen, out int) {
		p.head(false, Fixed)
		p.fixed(t, 'a', 'b')
		p.repeat(t, 8, 1)
		p.fixed(t, 256)
		p.head(true, Fixed)
		p.repeat(t, 3, 9)
	})
}

// P6.1: whatever the library writes, at each of its levels.
func TestLibraryStreams(t *testing.T) {
	r := dice()
	plain := strings.Repeat("the cellar keeps what the cellarer brings; ", 300)
	for i, s := range []string{
		"", "a", "hello hello hello", plain, strings.Repeat("x", api.MaxOut), randomText(r, api.MaxOut, 256), randomText(r, api.MaxOut, 3),
		randomText(r, 20000, 17), plain + randomText(r, 32768, 256) + plain, "\x00", strings.Repeat("\x00\xff", 500),
	} {
		for level := -2; level <= 9; level++ {
			z := libraryStream(t, s, level)
			l, n, e := Blocks(z, 0, len(s))
			if n != len(z) || e != api.OK || Join(l) != s {
				t.Fatalf("text %d, level %d: %d blocks, %d of %d bytes, %d", i, level, len(l), n, len(z), e)
			}
			if level%3 == 0 {
				checkStream(t, z, l, s)
			}
		}
	}
	z := libraryStream(t, strings.Repeat("x", api.MaxOut+1), 9)
	checkError(t, z, 0, api.MaxOut, api.ErrBig)
}

// P6.1, K7: very many blocks, of any kind, are read in good time.
func TestManyBlocks(t *testing.T) {
	var p pen
	const n = 20000
	for range n {
		p.head(false, Fixed)
		p.fixed(t, 256)
	}
	p.head(true, Fixed)
	p.fixed(t, 256)
	if l, size, e := Blocks(p.All(), 0, 0); len(l) != n+1 || size != len(p.All()) || e != api.OK {
		t.Errorf("fixed: %d blocks, %d, %d", len(l), size, e)
	}
	s := strings.Repeat("\x00\x00\x00\xff\xff", n) + "\x03\x00"
	if l, size, e := Blocks(s, 0, 0); len(l) != n+1 || size != len(s) || e != api.OK {
		t.Errorf("stored: %d blocks, %d, %d", len(l), size, e)
	}
}

// checkLikeLibrary: what is read here the library reads as the same text, and the other way about, but for a block without an end.
func checkLikeLibrary(t *testing.T, s string) api.Errno {
	t.Helper()
	text, n, e := Inflate(s, 0, api.MaxOut)
	want, taken, err := libraryText(s)
	switch {
	case e == api.OK && (err != nil || text != want || n != taken):
		t.Errorf("%x: read as %.40q, %d bytes; the library: %.40q, %d, %v", s, text, n, want, taken, err)
	case e == api.ErrBig && len(want) <= api.MaxOut:
		t.Errorf("%x: ErrBig; the library: %d bytes, %v", s, len(want), err)
	case e == api.ErrEnd && !errors.Is(err, io.ErrUnexpectedEOF):
		t.Errorf("%x: ErrEnd; the library: %d bytes, %v", s, len(want), err)
	case e == api.ErrText && err == nil:
		t.Errorf("%x: ErrText; the library: %d bytes", s, len(want))
	}
	if l, size, f := Blocks(s, 0, api.MaxOut); f != e || size != n || Join(l) != text {
		t.Errorf("%x: Blocks: %d, %d; Inflate: %d, %d", s, size, f, n, e)
	}
	return e
}

// P6.1: any bytes: those of streams with some bits turned, and those of no rule at all.
func TestAnyBytes(t *testing.T) {
	r := dice()
	seen := map[api.Errno]int{}
	plain := strings.Repeat("cellars, cellarers, and all that is kept in them: ", 8)
	for range 3000 {
		from := r.IntN(len(plain))
		s := []byte(libraryStream(t, plain[from:]+randomText(r, r.IntN(60), 1+r.IntN(256)), r.IntN(12)-2))
		for range r.IntN(3) {
			s[r.IntN(min(len(s), 1+r.IntN(len(s))))] ^= 1 << r.IntN(8)
		}
		seen[checkLikeLibrary(t, string(s))]++
	}
	for range 20000 {
		seen[checkLikeLibrary(t, randomText(r, r.IntN(40), 256))]++
	}
	for _, e := range []api.Errno{api.OK, api.ErrText, api.ErrEnd} {
		if seen[e] < 100 {
			t.Errorf("error %d was seen %d times only", e, seen[e])
		}
	}
}

// P6.3: what stands ahead of a stream, and behind it, doesn't matter.
func TestAheadAndBehind(t *testing.T) {
	r := dice()
	for i := range 300 {
		text := randomText(r, r.IntN(200), 1+r.IntN(8))
		s := libraryStream(t, text, i%12-2)
		ahead, behind := randomText(r, r.IntN(50), 256), randomText(r, r.IntN(50), 256)
		alone, _, _ := Blocks(s, 0, len(text))
		l, n, e := Blocks(ahead+s+behind, len(ahead), len(text))
		if !sameBlocks(l, alone) || n != len(s) || e != api.OK || Join(l) != text {
			t.Fatalf("%x at %d of %d: %d, %d", s, len(ahead), len(ahead+s+behind), n, e)
		}
		two := s + s
		if got, n, e := Inflate(two, len(s), len(text)); got != text || n != len(s) || e != api.OK {
			t.Fatalf("%x twice: %q, %d, %d", s, got, n, e)
		}
	}
}

// P6.1: Join, of blocks that were read and of others.
func TestJoin(t *testing.T) {
	a := match.Token{Byte: 'a'}
	for i, c := range []struct {
		l    []Block
		want string
	}{
		{nil, ""},
		{[]Block{{}, {Kind: Fixed}}, ""},
		{[]Block{{Bytes: "ab"}, {Kind: Fixed, Tokens: []match.Token{repeat(3, 2), {Byte: 'c'}}}}, "ababac"},
		{[]Block{{Kind: Dynamic, Tokens: []match.Token{a}}, {Bytes: "\x00\xff"}, {Kind: Fixed, Tokens: []match.Token{repeat(4, 3)}}}, "a\x00\xffa\x00\xffa"},
		{[]Block{{Bytes: "x", Tokens: []match.Token{a, repeat(3, 2)}}}, "xaxax"},
		{[]Block{{Kind: Fixed, Tokens: []match.Token{repeat(3, 1)}}}, ""},
		{[]Block{{Bytes: "ab"}, {Kind: Fixed, Tokens: []match.Token{a, repeat(3, 4)}}, {Bytes: "cd"}}, ""},
		{[]Block{{Bytes: "ab"}, {Kind: Fixed, Tokens: []match.Token{{Len: 3, Dist: math.MaxInt}}}}, ""},
	} {
		if got := Join(c.l); got != c.want {
			t.Errorf("number %d: %q", i, got)
		}
	}
	long := strings.Repeat("long", 50000)
	if got := Join([]Block{{Bytes: long}, {Bytes: long}}); got != long+long {
		t.Errorf("more than MaxOut: %d bytes", len(got))
	}
	for _, x := range []match.Token{{Len: -1, Dist: 1}, {Len: math.MaxInt, Dist: 1}, {Len: 3}, {Len: 3, Dist: math.MinInt}, {Dist: 1}} {
		if got := Join([]Block{{Bytes: "ab"}, {Kind: Fixed, Tokens: []match.Token{x}}}); got != "" {
			t.Errorf("Join with %v, which is no token: %d bytes", x, len(got))
		}
	}
}

// K3, K4: the same call, the same answer; the lists of answers share no memory; Join changes nothing.
func TestMemory(t *testing.T) {
	var p pen
	for i := range 4 {
		p.head(i == 3, Fixed)
		p.fixed(t, 'a', 'b', 'c')
		p.repeat(t, 5, 3)
		p.fixed(t, 256)
	}
	text := strings.Repeat("abcabcab", 4)
	one, _, _ := Blocks(p.All(), 0, 99)
	other, _, _ := Blocks(p.All(), 0, 99)
	if !sameBlocks(one, other) || Join(one) != text || Join(one) != text || !sameBlocks(one, other) {
		t.Fatalf("two answers: %v, %v", one, other)
	}
	for i := range one {
		_ = append(one[i].Tokens, match.Token{Byte: 'x'}, match.Token{Byte: 'y'})
		clear(one[i].Tokens[:i])
	}
	if Join(other) != text || one[0].Tokens[0].Byte != 'a' || one[1].Tokens[1].Byte != 'b' {
		t.Errorf("answers share memory: %v, %v", one, other)
	}
}
