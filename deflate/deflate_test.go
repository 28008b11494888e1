package deflate

import (
	"compress/flate"
	"io"
	"math"
	"math/rand/v2"
	"slices"
	"strings"
	"testing"

	"cellarer/api"
	"cellarer/bitio"
	"cellarer/huff"
	"cellarer/inflate"
	"cellarer/match"
)

// dice: the same numbers in every run.
func dice() *rand.Rand {
	return rand.New(rand.NewPCG(11, 12))
}

// randomText: n bytes, each one of the first few.
func randomText(r *rand.Rand, n, few int) string {
	out := make([]byte, n)
	for i := range out {
		out[i] = byte(r.IntN(few))
	}
	return string(out)
}

// libraryText: what the library inflates, and how many bytes it took.
func libraryText(s string) (string, int, error) {
	x := strings.NewReader(s)
	out, err := io.ReadAll(flate.NewReader(x))
	return string(out), len(s) - x.Len(), err
}

// many: a length, n times.
func many(length, n int) []int {
	return slices.Repeat([]int{length}, n)
}

func checkSteps(t *testing.T, lengths []int, want ...Step) {
	t.Helper()
	if l := Steps(lengths); !slices.Equal(l, want) {
		t.Errorf("Steps(%v) = %v, not %v", lengths, l, want)
	}
}

// P7.2, P7.3: the bounds are the document's.
func TestBounds(t *testing.T) {
	if MaxStored != 65535 || PerBlock != 4000 {
		t.Errorf("%d bytes, %d tokens", MaxStored, PerBlock)
	}
}

// P7.1: the document's examples, and no lengths.
func TestSteps(t *testing.T) {
	checkSteps(t, []int{0, 0, 0, 5, 5, 5, 5, 5}, Step{17, 0}, Step{5, 0}, Step{16, 1})
	checkSteps(t, []int{0, 0}, Step{}, Step{})
	checkSteps(t, many(0, 140), Step{18, 127}, Step{}, Step{})
	checkSteps(t, nil)
	checkSteps(t, []int{})
	for n := range 16 {
		checkSteps(t, []int{n}, Step{n, 0})
	}
}

// P7.1: noughts at each bound of the symbols 17 and 18.
func TestStepsNoughts(t *testing.T) {
	checkSteps(t, many(0, 3), Step{17, 0})
	checkSteps(t, many(0, 10), Step{17, 7})
	checkSteps(t, many(0, 11), Step{18, 0})
	checkSteps(t, many(0, 137), Step{18, 126})
	checkSteps(t, many(0, 138), Step{18, 127})
	checkSteps(t, many(0, 139), Step{18, 127}, Step{})
	checkSteps(t, many(0, 141), Step{18, 127}, Step{17, 0})
	checkSteps(t, many(0, 148), Step{18, 127}, Step{17, 7})
	checkSteps(t, many(0, 149), Step{18, 127}, Step{18, 0})
	checkSteps(t, many(0, 276), Step{18, 127}, Step{18, 127})
}

// P7.1: equal lengths at each bound of the symbol 16, which needs one ahead.
func TestStepsAgain(t *testing.T) {
	one := Step{15, 0}
	checkSteps(t, many(15, 3), one, one, one)
	checkSteps(t, many(15, 4), one, Step{16, 0})
	checkSteps(t, many(15, 7), one, Step{16, 3})
	checkSteps(t, many(15, 8), one, Step{16, 3}, one)
	checkSteps(t, many(15, 9), one, Step{16, 3}, one, one)
	checkSteps(t, many(15, 10), one, Step{16, 3}, Step{16, 0})
	checkSteps(t, []int{1, 15, 15, 15}, Step{1, 0}, one, one, one)
	checkSteps(t, []int{15, 0, 0, 15, 15, 15}, one, Step{}, Step{}, one, one, one)
	checkSteps(t, []int{15, 0, 0, 0, 0}, one, Step{17, 1})
}

// wordsSteps: the symbols, as the document's words go.
func wordsSteps(lengths []int) []Step {
	var out []Step
	at := 0
	for at < len(lengths) {
		n := 0
		for at+n < len(lengths) && lengths[at+n] == lengths[at] {
			n++
		}
		if lengths[at] == 0 && n >= 11 {
			out = append(out, Step{18, min(n, 138) - 11})
			at += min(n, 138)
		} else if lengths[at] == 0 && n >= 3 {
			out = append(out, Step{17, min(n, 10) - 3})
			at += min(n, 10)
		} else if at > 0 && lengths[at-1] == lengths[at] && n >= 3 {
			out = append(out, Step{16, min(n, 6) - 3})
			at += min(n, 6)
		} else {
			out = append(out, Step{lengths[at], 0})
			at++
		}
	}
	return out
}

// P7.1, P7.4: rows of runs of any width; the row itself stays, and so does the room behind it.
func TestStepsOfRuns(t *testing.T) {
	r := dice()
	for range 3000 {
		var row []int
		for range r.IntN(8) {
			row = append(row, many(r.IntN(3)*r.IntN(8), r.IntN([]int{2, 5, 20, 300}[r.IntN(4)]))...)
		}
		row = append(row, 7, 7, 7)
		kept := slices.Clone(row)
		l := Steps(row[:len(row)-3])
		if want := wordsSteps(row[:len(row)-3]); !slices.Equal(l, want) {
			t.Fatalf("Steps(%v) = %v, not %v", row[:len(row)-3], l, want)
		}
		if !slices.Equal(row, kept) {
			t.Fatalf("the row was changed: %v", kept)
		}
		if again := Steps(row[:len(row)-3]); !slices.Equal(l, again) {
			t.Fatalf("another answer for %v", kept)
		}
	}
}

// P7.1, P1: a long row of equal lengths is gone through once.
func TestStepsOfLongRow(t *testing.T) {
	if l := Steps(many(9, 3000001)); len(l) != 500001 || l[500000] != (Step{16, 3}) {
		t.Errorf("%d steps", len(l))
	}
}

// storedByHand: the blocks of a stream, each by its width.
func storedByHand(s string, widths ...int) string {
	out := ""
	for i, n := range widths {
		last := byte(0)
		if i == len(widths)-1 {
			last = 1
		}
		out += string([]byte{last, byte(n), byte(n >> 8), ^byte(n), ^byte(n >> 8)}) + s[:n]
		s = s[n:]
	}
	return out
}

// P7.2: the example, the empty text, and texts at the bounds of a block.
func TestStored(t *testing.T) {
	if s := Stored("ab"); s != "\x01\x02\x00\xfd\xffab" {
		t.Errorf("ab: %x", s)
	}
	if s := Stored(""); s != "\x01\x00\x00\xff\xff" {
		t.Errorf("empty: %x", s)
	}
	r := dice()
	for _, widths := range [][]int{
		{0}, {1}, {255}, {256}, {65534}, {65535}, {65535, 1}, {65535, 65534}, {65535, 65535}, {65535, 65535, 1}, {65535, 65535, 65535, 777},
	} {
		n := 0
		for _, w := range widths {
			n += w
		}
		s := randomText(r, n, 256)
		d := Stored(s)
		if d != storedByHand(s, widths...) {
			t.Errorf("%d bytes: not the blocks %v", n, widths)
		}
		if u, taken, err := libraryText(d); u != s || taken != len(d) || err != nil {
			t.Errorf("%d bytes: the library: %d bytes, %d taken, %v", n, len(u), taken, err)
		}
	}
}

// P7.2, P6: what is stored is read by layer 6.
func TestStoredIsRead(t *testing.T) {
	for _, n := range []int{0, 1, 65535, 65536} {
		s := randomText(dice(), n, 256)
		d := Stored(s)
		l, taken, e := inflate.Blocks(d, 0, n)
		if e != api.OK || taken != len(d) || inflate.Join(l) != s {
			t.Fatalf("%d bytes: %d taken, %d", n, taken, e)
		}
		for _, b := range l {
			if b.Kind != inflate.Stored {
				t.Errorf("%d bytes: a block of kind %d", n, b.Kind)
			}
		}
	}
}

// checkDeflate: what was written is read back, by layer 6 and by the library, and isn't longer than if it was stored.
func checkDeflate(t *testing.T, s string, level int) string {
	t.Helper()
	d, e := Deflate(s, level)
	if e != api.OK {
		t.Fatalf("level %d, %d bytes: %d", level, len(s), e)
	}
	if u, n, e := inflate.Inflate(d, 0, len(s)); u != s || n != len(d) || e != api.OK {
		t.Fatalf("level %d, %d bytes: %d of %d bytes taken, %d", level, len(s), n, len(d), e)
	}
	if u, n, err := libraryText(d); u != s || n != len(d) || err != nil {
		t.Fatalf("level %d, %d bytes: the library: %d of %d bytes taken, %v", level, len(s), n, len(d), err)
	}
	if len(d) > len(Stored(s)) {
		t.Errorf("level %d: %d bytes, stored %d", level, len(d), len(Stored(s)))
	}
	if again, _ := Deflate(s, level); again != d {
		t.Errorf("level %d, %d bytes: another answer", level, len(s))
	}
	return d
}

// P7.3, P7.4: texts of all kinds, at every level.
func TestDeflate(t *testing.T) {
	r := dice()
	texts := []string{
		"", "a", "ab", "aaa", "\x00", "\xff\x00\x90", strings.Repeat("abcabd", 500),
		strings.Repeat("the quick brown fox jumps over the lazy dog. ", 100),
		strings.Repeat("x", api.MaxOut), randomText(r, api.MaxOut, 256), randomText(r, api.MaxOut, 20),
		randomText(r, 30000, 256) + strings.Repeat("y", 30000),
	}
	for _, n := range []int{10, 100, 3999, 4000, 4001, 8000, 20000} {
		for _, few := range []int{1, 2, 9, 256} {
			texts = append(texts, randomText(r, n, few))
		}
	}
	for level := range match.MaxLevel + 1 {
		for _, s := range texts {
			checkDeflate(t, s, level)
		}
	}
}

// P7.3: every byte alone, and short texts by the thousand.
func TestDeflateShort(t *testing.T) {
	for b := range 256 {
		checkDeflate(t, string([]byte{byte(b)}), b%10)
	}
	r := dice()
	for i := range 3000 {
		checkDeflate(t, randomText(r, r.IntN(60), 1+r.IntN(256)), i%10)
	}
}

// P7.3: a text that can't be packed is no longer than if it was stored.
func TestDeflateOfNoise(t *testing.T) {
	r := dice()
	for i := range 200 {
		checkDeflate(t, randomText(r, r.IntN(2000), 256), i%10)
	}
	s := randomText(r, api.MaxOut, 256)
	if d := checkDeflate(t, s, 9); len(d) != len(s)+10 {
		t.Errorf("noise: %d bytes", len(d))
	}
}

// P7.3: of equal bytes no more than 64 + n / 64.
func TestDeflateOfEqualBytes(t *testing.T) {
	r := dice()
	sizes := []int{1000, 1001, 1023, 1024, 4000, 4001, 32768, 32769, api.MaxOut - 1, api.MaxOut}
	for range 5 {
		sizes = append(sizes, 1000+r.IntN(api.MaxOut-999))
	}
	for _, n := range sizes {
		for level := 1; level <= match.MaxLevel; level++ {
			for _, b := range []byte{0, 0xff} {
				if d := checkDeflate(t, strings.Repeat(string([]byte{b}), n), level); len(d) > 64+n/64 {
					t.Errorf("level %d, %d times %d: %d bytes", level, n, b, len(d))
				}
			}
		}
	}
}

// P7.3: the errors are those of Tokens.
func TestDeflateErrors(t *testing.T) {
	long := strings.Repeat("x", api.MaxOut+1)
	for _, c := range []struct {
		s     string
		level int
		want  api.Errno
	}{
		{"", -1, api.ErrArg}, {"", 10, api.ErrArg}, {"a", math.MinInt, api.ErrArg}, {"a", math.MaxInt, api.ErrArg},
		{long, -1, api.ErrArg}, {long, 10, api.ErrArg}, {long, 0, api.ErrBig}, {long, 9, api.ErrBig}, {long + long, 5, api.ErrBig},
	} {
		if d, e := Deflate(c.s, c.level); d != "" || e != c.want {
			t.Errorf("%d bytes, level %d: %d bytes, %d, not %d", len(c.s), c.level, len(d), e, c.want)
		}
	}
}

// P7.3: repeats are told as such, so that a text of them is short.
func TestDeflatePacks(t *testing.T) {
	text := strings.Repeat("the quick brown fox jumps over the lazy dog. ", 100)
	for level := 1; level <= match.MaxLevel; level++ {
		if d := checkDeflate(t, text, level); len(d) > 200 {
			t.Errorf("level %d: %d bytes", level, len(d))
		}
	}
	if d := checkDeflate(t, randomText(dice(), 20000, 4), 0); len(d) > 20000*3/8 {
		t.Errorf("four letters at level 0: %d bytes", len(d))
	}
}

// packedTokens: those that layer 6 reads of what was packed; each block but the last one is full.
func packedTokens(t *testing.T, l []match.Token) []match.Token {
	t.Helper()
	s := pack(l)
	blocks, n, e := inflate.Blocks(s, 0, api.MaxOut)
	if e != api.OK || n != len(s) {
		t.Fatalf("Blocks: %d of %d bytes, %d", n, len(s), e)
	}
	if want := max(1, (len(l)+PerBlock-1)/PerBlock); len(blocks) != want {
		t.Errorf("%d tokens: %d blocks", len(l), len(blocks))
	}
	var out []match.Token
	for i, b := range blocks {
		if len(b.Tokens) != PerBlock && i < len(blocks)-1 {
			t.Errorf("block %d has %d tokens", i, len(b.Tokens))
		}
		out = append(out, b.Tokens...)
	}
	return out
}

// P7.3: every size of a repeat.
func TestEverySize(t *testing.T) {
	l := []match.Token{{Byte: 'a'}}
	for n := match.Least; n <= match.Most; n++ {
		l = append(l, match.Token{Len: n, Dist: 1})
	}
	if got := packedTokens(t, l); !slices.Equal(got, l) {
		t.Errorf("all sizes: %v", got)
	}
	for n := match.Least; n <= match.Most; n++ {
		one := []match.Token{{Byte: 'a'}, {Len: n, Dist: 1}}
		if got := packedTokens(t, one); !slices.Equal(got, one) {
			t.Errorf("size %d: %v", n, got)
		}
	}
}

// P7.3: distances, each of the least ones, and the greater ones at both bounds of each number.
func TestEveryDistance(t *testing.T) {
	l := []match.Token{{Byte: 'a'}}
	for range 128 {
		l = append(l, match.Token{Len: match.Most, Dist: 1})
	}
	start := len(l)
	for i := range 30 {
		least, bits := inflate.Size(i, true)
		for _, dist := range []int{least, least + 1<<bits - 1, least + (1<<bits-1)/2} {
			l = append(l, match.Token{Len: 3, Dist: dist})
		}
	}
	for dist := 1; dist <= 2000; dist++ {
		l = append(l, match.Token{Len: 3, Dist: dist})
	}
	if l[start+29*3+1].Dist != match.Window {
		t.Fatalf("the greatest distance is %d", l[start+29*3+1].Dist)
	}
	if got := packedTokens(t, l); !slices.Equal(got, l) {
		t.Errorf("not the same tokens")
	}
}

// P7.3: blocks at the bound of how many tokens they have.
func TestBlocksOfTokens(t *testing.T) {
	r := dice()
	for _, n := range []int{0, 1, 3999, 4000, 4001, 7999, 8000, 8001, 40000} {
		for _, few := range []int{1, 2, 256} {
			var l []match.Token
			for _, b := range []byte(randomText(r, n, few)) {
				l = append(l, match.Token{Byte: b})
			}
			if got := packedTokens(t, l); !slices.Equal(got, l) {
				t.Errorf("%d tokens of %d letters: %d tokens", n, few, len(got))
			}
		}
	}
}

// P7.3: either kind of block is taken where it is the shorter one.
func TestKindsOfBlocks(t *testing.T) {
	kind := func(s string) int {
		d := checkDeflate(t, s, 6)
		l, _, _ := inflate.Blocks(d, 0, len(s))
		return l[0].Kind
	}
	if k := kind("hello hello"); k != inflate.Fixed {
		t.Errorf("short: %d", k)
	}
	if k := kind(randomText(dice(), 3000, 5)); k != inflate.Dynamic {
		t.Errorf("few letters: %d", k)
	}
	if k := kind(randomText(dice(), 3000, 256)); k != inflate.Stored {
		t.Errorf("noise: %d", k)
	}
}

// P7.3: a dynamic block, also where it isn't the shorter one, is read: of no token, of bytes alone, of one distance.
func TestDynamicBlocks(t *testing.T) {
	for _, l := range [][]match.Token{
		nil,
		{{Byte: 0}},
		{{Byte: 255}},
		{{Byte: 'a'}, {Byte: 'b'}, {Byte: 'a'}},
		{{Byte: 'a'}, {Len: 258, Dist: 1}},
		{{Byte: 'a'}, {Byte: 'b'}, {Len: 3, Dist: 1}, {Len: 3, Dist: 2}},
	} {
		var w bitio.Sink
		put(&w, dynamicBlock(signsOf(l), true))
		s := w.All()
		blocks, n, e := inflate.Blocks(s, 0, api.MaxOut)
		if e != api.OK || n != len(s) || len(blocks) != 1 || blocks[0].Kind != inflate.Dynamic || !slices.Equal(blocks[0].Tokens, l) {
			t.Errorf("%v: %v, %d of %d bytes, %d", l, blocks, n, len(s), e)
		}
		if u, taken, err := libraryText(s); u != inflate.Join(blocks) || taken != len(s) || err != nil {
			t.Errorf("%v: the library: %q, %d of %d bytes, %v", l, u, taken, len(s), err)
		}
		if countOf(dynamicBlock(signsOf(l), true)) != w.Count() {
			t.Errorf("%v: not as many bits as were counted", l)
		}
	}
}

// P7.3: counts whose best codes would be longer than a block can tell.
func TestLongCodesAreCut(t *testing.T) {
	var steps []Step
	a, b := 1, 1
	for symbol := range 12 {
		steps = append(steps, slices.Repeat([]Step{{Symbol: symbol}}, a)...)
		a, b = b, a+b
	}
	firsts := firstLengths(steps)
	if _, e := huff.Codes(firsts); e != api.OK || slices.Max(firsts) != 7 || len(firsts) != 19 {
		t.Errorf("first lengths %v, %d", firsts, e)
	}
	var text strings.Builder
	a, b = 1, 1
	for symbol := range 22 {
		text.WriteString(strings.Repeat(string([]byte{byte(symbol)}), a))
		a, b = b, a+b
	}
	checkDeflate(t, text.String(), 0)
}
