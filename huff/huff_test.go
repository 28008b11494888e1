package huff

import (
	"compress/flate"
	"io"
	"math"
	"math/rand/v2"
	"slices"
	"strconv"
	"strings"
	"testing"

	"cellarer/api"
	"cellarer/bitio"
)

// dice: the same numbers in every run.
func dice() *rand.Rand {
	return rand.New(rand.NewPCG(7, 8))
}

// digitsOf: a code's bits, the first one first.
func digitsOf(c Code) string {
	if c.Len == 0 {
		return ""
	}
	s := strconv.FormatUint(uint64(c.Bits), 2)
	return strings.Repeat("0", max(c.Len-len(s), 0)) + s
}

// whole: do the parts of all lengths above 0 come to 1?
func whole(lengths []int) bool {
	sum := 0.0
	for _, n := range lengths {
		if n > 0 {
			sum += math.Pow(2, -float64(n))
		}
	}
	return sum == 1
}

// randomFit: lengths of n codes (2 or more) that come to 1, some noughts among them.
func randomFit(r *rand.Rand, n, noughts int) []int {
	out := []int{1, 1}
	for len(out) < n {
		i := r.IntN(len(out))
		if out[i] < MaxLength {
			out[i]++
			out = append(out, out[i])
		}
	}
	out = append(out, make([]int, noughts)...)
	r.Shuffle(len(out), func(i, j int) { out[i], out[j] = out[j], out[i] })
	return out
}

// fixed: those of RFC 1951's fixed codes.
func fixed() []int {
	var out []int
	for i := range 288 {
		switch {
		case i <= 143:
			out = append(out, 8)
		case i <= 255:
			out = append(out, 9)
		case i <= 279:
			out = append(out, 7)
		default:
			out = append(out, 8)
		}
	}
	return out
}

// deepest: 1, 2, .., 14, 15, 15.
func deepest() []int {
	var out []int
	for n := range MaxLength {
		out = append(out, n+1)
	}
	return append(out, MaxLength)
}

// fits: lengths that fit, of all kinds.
func fits() [][]int {
	r := dice()
	full := make([]int, 256)
	for i := range full {
		full[i] = 8
	}
	backwards := deepest()
	slices.Reverse(backwards)
	out := [][]int{
		nil, {}, {0}, {0, 0, 0}, make([]int, MaxSymbols), {1}, {0, 1}, {0, 0, 1, 0}, {1, 1}, {0, 1, 0, 1}, {2, 1, 3, 3}, {2, 2, 2, 2},
		{3, 3, 3, 3, 3, 2, 4, 4}, deepest(), backwards, full, fixed(), randomFit(r, MaxSymbols, 0), randomFit(r, 2, MaxSymbols-2),
	}
	for range 300 {
		out = append(out, randomFit(r, 2+r.IntN(60), r.IntN(5)))
	}
	return out
}

// P4.1: the examples of the document and of RFC 1951.
func TestCodes(t *testing.T) {
	for _, c := range []struct {
		lengths []int
		want    string
	}{
		{[]int{2, 1, 3, 3}, "10 0 110 111"},
		{[]int{3, 3, 3, 3, 3, 2, 4, 4}, "010 011 100 101 110 00 1110 1111"},
		{[]int{1}, "0"},
		{[]int{0, 1, 0}, " 0 "},
		{[]int{1, 1}, "0 1"},
		{[]int{2, 0, 2, 1}, "10  11 0"},
		{[]int{4, 4, 1, 3, 2}, "1110 1111 0 110 10"},
		{[]int{0, 0}, " "},
	} {
		codes, e := Codes(c.lengths)
		var got []string
		for _, code := range codes {
			got = append(got, digitsOf(code))
		}
		if e != api.OK || strings.Join(got, " ") != c.want {
			t.Errorf("Codes(%v): %q, %d", c.lengths, got, e)
		}
	}
	codes, e := Codes(fixed())
	for symbol, want := range map[int]string{
		0: "00110000", 143: "10111111", 144: "110010000", 255: "111111111", 256: "0000000", 279: "0010111", 280: "11000000", 287: "11000111",
	} {
		if e != api.OK || digitsOf(codes[symbol]) != want {
			t.Errorf("fixed, symbol %d: %s, %d", symbol, digitsOf(codes[symbol]), e)
		}
	}
}

// P4.1: by the document's own words: by rising lengths, then by rising symbols, each code the one ahead and 1.
func TestCodesInOrder(t *testing.T) {
	for _, lengths := range fits() {
		codes, e := Codes(lengths)
		if e != api.OK || len(codes) != len(lengths) {
			t.Fatalf("Codes(%v): %d codes, %d", lengths, len(codes), e)
		}
		bits, length := 0, 0
		for n := 1; n <= MaxLength; n++ {
			for symbol := range lengths {
				if lengths[symbol] != n {
					continue
				}
				if length > 0 {
					bits = (bits + 1) * (1 << (n - length))
				}
				length = n
				if codes[symbol] != (Code{Bits: uint32(bits), Len: n}) {
					t.Fatalf("Codes(%v), symbol %d: %v, not %b", lengths, symbol, codes[symbol], bits)
				}
			}
		}
		for symbol, n := range lengths {
			if n == 0 && codes[symbol] != (Code{}) {
				t.Fatalf("Codes(%v), symbol %d has no code: %v", lengths, symbol, codes[symbol])
			}
		}
	}
}

// wrong is lengths that Codes and Plant refuse.
type wrong struct {
	lengths []int
	want    api.Errno
}

func wrongLengths() []wrong {
	many := func(n, length int) []int {
		return slices.Repeat([]int{length}, n)
	}
	return []wrong{
		{many(321, 0), api.ErrBig},
		{many(321, -1), api.ErrBig},
		{many(321, 16), api.ErrBig},
		{many(512, 9), api.ErrBig},
		{append(many(320, 0), 1), api.ErrBig},
		{[]int{16}, api.ErrArg},
		{[]int{-1}, api.ErrArg},
		{[]int{1, 1, -1}, api.ErrArg},
		{[]int{1, 1, 16}, api.ErrArg},
		{[]int{1, 1, 1, 16}, api.ErrArg},
		{[]int{-1, 2}, api.ErrArg},
		{[]int{math.MinInt}, api.ErrArg},
		{[]int{math.MaxInt}, api.ErrArg},
		{append(many(319, 0), 16), api.ErrArg},
		{[]int{1, 1, 1}, api.ErrForm},
		{[]int{2, 2}, api.ErrForm},
		{[]int{2}, api.ErrForm},
		{[]int{0, 15, 0}, api.ErrForm},
		{[]int{1, 2}, api.ErrForm},
		{[]int{1, 0, 15}, api.ErrForm},
		{[]int{1, 1, 15}, api.ErrForm},
		{[]int{2, 2, 2}, api.ErrForm},
		{[]int{2, 2, 2, 2, 2}, api.ErrForm},
		{many(4, 1), api.ErrForm},
		{many(320, 1), api.ErrForm},
		{many(320, 15), api.ErrForm},
		{many(255, 8), api.ErrForm},
		{many(257, 8), api.ErrForm},
		{deepest()[:MaxLength], api.ErrForm},
		{append(deepest(), MaxLength), api.ErrForm},
		{fixed()[:287], api.ErrForm},
	}
}

// P4.1, P4.2: the first error is told, and nothing beside it.
func TestWrongLengths(t *testing.T) {
	for _, c := range wrongLengths() {
		if codes, e := Codes(c.lengths); e != c.want || codes != nil {
			t.Errorf("Codes(%v): %v, %d, not %d", c.lengths, codes, e, c.want)
		}
		if tree, e := Plant(c.lengths); e != c.want || tree != nil {
			t.Errorf("Plant(%v): %v, %d, not %d", c.lengths, tree, e, c.want)
		}
	}
}

// P4.1: of all lengths up to 3 of up to five symbols just those fit that the document says.
func TestWhichFit(t *testing.T) {
	var all func(lengths []int)
	all = func(lengths []int) {
		used := len(lengths) - len(slices.DeleteFunc(slices.Clone(lengths), func(n int) bool { return n > 0 }))
		want := api.ErrForm
		if used == 0 || used == 1 && slices.Contains(lengths, 1) || whole(lengths) {
			want = api.OK
		}
		if _, e := Codes(lengths); e != want {
			t.Errorf("Codes(%v): %d, not %d", lengths, e, want)
		}
		for n := 0; n <= 3 && len(lengths) < 5; n++ {
			all(append(slices.Clone(lengths), n))
		}
	}
	all(nil)
}

// P4.2: codes that were put are read again, behind other bits too, and no bit more is taken.
func TestReadAgain(t *testing.T) {
	r := dice()
	for _, lengths := range fits() {
		codes, e := Codes(lengths)
		tree, e2 := Plant(lengths)
		if e != api.OK || e2 != api.OK {
			t.Fatalf("%v: %d, %d", lengths, e, e2)
		}
		var coded []int
		for symbol, n := range lengths {
			if n > 0 {
				coded = append(coded, symbol)
			}
		}
		var symbols []int
		for range 3 {
			symbols = append(symbols, coded...)
		}
		r.Shuffle(len(symbols), func(i, j int) { symbols[i], symbols[j] = symbols[j], symbols[i] })
		var w bitio.Sink
		ahead := r.IntN(9)
		w.Put(0x155, ahead)
		for _, symbol := range symbols {
			w.Turn(codes[symbol].Bits, codes[symbol].Len)
		}
		x := bitio.Of(w.All() + "\xff")
		x.Take(ahead)
		for i, symbol := range symbols {
			place := x.Place()
			if got, e := tree.Next(x); got != symbol || e != api.OK || x.Place() != place+lengths[symbol] {
				t.Fatalf("%v, number %d: %d, %d, %d bits; put: %d", lengths, i, got, e, x.Place()-place, symbol)
			}
		}
	}
}

// P4.1, P4.2: the library reads RFC 1951's fixed codes as they are put here.
func TestLibraryReadsCodes(t *testing.T) {
	var text []byte
	for i := range 512 {
		text = append(text, byte(i*7))
	}
	codes, e := Codes(fixed())
	if e != api.OK {
		t.Fatal(e)
	}
	var w bitio.Sink
	w.Put(1, 1)
	w.Put(1, 2)
	for _, b := range text {
		w.Turn(codes[b].Bits, codes[b].Len)
	}
	w.Turn(codes[256].Bits, codes[256].Len)
	got, err := io.ReadAll(flate.NewReader(strings.NewReader(w.All())))
	if err != nil || !slices.Equal(got, text) {
		t.Errorf("the library reads %x, %v", got, err)
	}
}

// P4.2: a code that is cut off; the bits that are taken are those up to the first that isn't there.
func TestNextAtTheEnd(t *testing.T) {
	for _, lengths := range [][]int{{1}, {1, 1}, {}, {0, 0}, {2, 1, 3, 3}, fixed(), deepest()} {
		tree, e := Plant(lengths)
		if e != api.OK {
			t.Fatalf("Plant(%v): %d", lengths, e)
		}
		x := bitio.Of("")
		for i := range 3 {
			if s, e := tree.Next(x); s != 0 || e != api.ErrEnd || x.Place() != i+1 {
				t.Errorf("%v, behind the end: %d, %d, at %d", lengths, s, e, x.Place())
			}
		}
	}
	tree, _ := Plant(deepest())
	for left := range 14 {
		x := bitio.Of("\xff\xff")
		x.Take(16 - left)
		if s, e := tree.Next(x); s != 0 || e != api.ErrEnd || x.Place() != 17 {
			t.Errorf("%d bits of 15: %d, %d, at %d", left, s, e, x.Place())
		}
	}
	x := bitio.Of("\xff\xff")
	x.Take(1)
	if s, e := tree.Next(x); s != 15 || e != api.OK || x.Place() != 16 || x.Short() {
		t.Errorf("the last bits: %d, %d, at %d", s, e, x.Place())
	}
	if s, e := tree.Next(x); s != 0 || e != api.ErrEnd {
		t.Errorf("behind the last bits: %d, %d", s, e)
	}
}

// P4.2: bits that begin no code: of a lone code the bit 1, of no codes either bit.
func TestNextOfNoCode(t *testing.T) {
	lone, e := Plant([]int{0, 0, 1})
	if e != api.OK {
		t.Fatal(e)
	}
	x := bitio.Of("\x02")
	if s, e := lone.Next(x); s != 2 || e != api.OK || x.Place() != 1 {
		t.Errorf("the lone code: %d, %d", s, e)
	}
	if s, e := lone.Next(x); s != 0 || e != api.ErrText || x.Place() != 2 {
		t.Errorf("another bit: %d, %d, at %d", s, e, x.Place())
	}
	if s, e := lone.Next(x); s != 2 || e != api.OK || x.Place() != 3 {
		t.Errorf("behind it: %d, %d, at %d", s, e, x.Place())
	}
	for _, lengths := range [][]int{nil, {}, {0}, make([]int, MaxSymbols)} {
		none, e := Plant(lengths)
		if e != api.OK || none == nil {
			t.Fatalf("Plant(%v): %v, %d", lengths, none, e)
		}
		x := bitio.Of("\x02")
		for i := range 8 {
			if s, e := none.Next(x); s != 0 || e != api.ErrText || x.Place() != i+1 {
				t.Errorf("no codes, bit %d: %d, %d, at %d", i, s, e, x.Place())
			}
		}
		if s, e := none.Next(x); s != 0 || e != api.ErrEnd {
			t.Errorf("no codes, no bits: %d, %d", s, e)
		}
	}
}

// P4.3
func TestNoCodeBeginsAnother(t *testing.T) {
	for _, lengths := range fits() {
		codes, e := Codes(lengths)
		if e != api.OK {
			t.Fatalf("Codes(%v): %d", lengths, e)
		}
		var all []string
		for symbol, c := range codes {
			if c.Len != lengths[symbol] || c.Bits>>c.Len != 0 {
				t.Fatalf("Codes(%v), symbol %d: %v", lengths, symbol, c)
			}
			if c.Len > 0 {
				all = append(all, digitsOf(c))
			}
		}
		// In the order of texts a beginning stands next to something that it begins.
		slices.Sort(all)
		for i := 1; i < len(all); i++ {
			if strings.HasPrefix(all[i], all[i-1]) {
				t.Fatalf("Codes(%v): %s begins %s", lengths, all[i-1], all[i])
			}
		}
	}
}

func cost(counts, lengths []int) int {
	sum := 0
	for i := range counts {
		sum += counts[i] * lengths[i]
	}
	return sum
}

// leastCost: of two or more counts above 0: level by level, how many of the nodes there become codes, tried one by one.
// State: nodes that stand at a level, and how many of the greatest counts have a code already.
func leastCost(counts []int, most int) int {
	sorted := slices.DeleteFunc(slices.Clone(counts), func(n int) bool { return n == 0 })
	slices.Sort(sorted)
	n := len(sorted)
	left := make([]int, n+1) // the sum of all counts but the i greatest
	for i := range n {
		left[n-i-1] = left[n-i] + sorted[i]
	}
	const never = math.MaxInt / 2
	behind := make([][]int, n+1)
	for level := most; level >= 0; level-- {
		now := make([][]int, n+1)
		for placed := range n + 1 {
			now[placed] = make([]int, n-placed+1)
			for open := range now[placed] {
				best := never
				if open == n-placed {
					best = 0 // all that are left have a code here
				}
				for codes := 0; codes < open && level < most; codes++ {
					if next := 2 * (open - codes); next <= n-placed-codes {
						best = min(best, left[placed+codes]+behind[placed+codes][next])
					}
				}
				now[placed][open] = best
			}
		}
		behind = now
	}
	return behind[0][1]
}

// checkBest: does Lengths answer as the document says?
func checkBest(t *testing.T, counts []int, most int) {
	t.Helper()
	lengths, e := Lengths(counts, most)
	if e != api.OK || len(lengths) != len(counts) {
		t.Fatalf("Lengths(%v, %d): %v, %d", counts, most, lengths, e)
	}
	for i, n := range lengths {
		if (n == 0) != (counts[i] == 0) || n < 0 || n > most {
			t.Fatalf("Lengths(%v, %d): %v: number %d", counts, most, lengths, i)
		}
		for j := range lengths {
			if counts[i] > counts[j] && counts[j] > 0 && n > lengths[j] {
				t.Fatalf("Lengths(%v, %d): %v: the greater count %d has the greater length", counts, most, lengths, counts[i])
			}
		}
	}
	if !whole(lengths) {
		t.Fatalf("Lengths(%v, %d): %v: not a whole", counts, most, lengths)
	}
	if got, want := cost(counts, lengths), leastCost(counts, most); got != want {
		t.Fatalf("Lengths(%v, %d): %v: costs %d, not %d", counts, most, lengths, got, want)
	}
	if again, _ := Lengths(counts, most); !slices.Equal(again, lengths) {
		t.Fatalf("Lengths(%v, %d): %v, then %v", counts, most, lengths, again)
	}
	if _, e := Codes(lengths); e != api.OK {
		t.Fatalf("Codes(%v): %d", lengths, e)
	}
}

// leastBits: the least bound within which n codes have room.
func leastBits(n int) int {
	most := 1
	for 1<<most < n {
		most++
	}
	return most
}

// P4.4: the document's examples, and others whose lengths can be told by hand.
func TestLengths(t *testing.T) {
	for _, c := range []struct {
		counts []int
		most   int
		want   []int
	}{
		{[]int{5, 1, 1, 0}, 15, []int{1, 2, 2, 0}},
		{[]int{8, 1, 1, 1}, 2, []int{2, 2, 2, 2}},
		{[]int{0, 7}, 15, []int{0, 1}},
		{[]int{7}, 1, []int{1}},
		{[]int{0, 0, MaxCount, 0}, 1, []int{0, 0, 1, 0}},
		{[]int{0, 0}, 15, []int{0, 0}},
		{make([]int, MaxSymbols), 1, make([]int, MaxSymbols)},
		{[]int{}, 1, nil},
		{nil, 15, nil},
		{[]int{1, MaxCount}, 1, []int{1, 1}},
		{[]int{0, 1, 0, MaxCount}, 15, []int{0, 1, 0, 1}},
		{[]int{1, 2, 4, 8, 16}, 15, []int{4, 4, 3, 2, 1}},
		{[]int{16, 8, 4, 1, 2}, 4, []int{1, 2, 3, 4, 4}},
		{[]int{1, 2, 4, 8, 16}, 3, []int{3, 3, 3, 3, 1}},
	} {
		if got, e := Lengths(c.counts, c.most); e != api.OK || !slices.Equal(got, c.want) {
			t.Errorf("Lengths(%v, %d): %v, %d", c.counts, c.most, got, e)
		}
	}
}

// P4.4: no other lengths within the bound cost less: few counts, within every bound.
func TestBestOfFew(t *testing.T) {
	r := dice()
	for range 1500 {
		counts := make([]int, 2+r.IntN(15))
		top := []int{2, 3, 10, 1000, MaxCount + 1}[r.IntN(5)]
		for i := range counts {
			counts[i] = r.IntN(top)
		}
		counts[0], counts[1] = 1+counts[0]%MaxCount, 1+counts[1]%MaxCount
		used := len(slices.DeleteFunc(slices.Clone(counts), func(n int) bool { return n == 0 }))
		for most := leastBits(used); most <= MaxLength; most++ {
			checkBest(t, counts, most)
		}
	}
}

// P4.4: counts whose best lengths would be far above the bound: powers and sums of the two ahead.
func TestBestOfSteep(t *testing.T) {
	powers, sums := []int{1}, []int{1, 1}
	for len(powers) < 20 {
		powers = append(powers, powers[len(powers)-1]*2)
	}
	for len(sums) < 30 {
		sums = append(sums, sums[len(sums)-1]+sums[len(sums)-2])
	}
	for _, counts := range [][]int{powers, sums} {
		for n := 2; n <= len(counts); n++ {
			for most := leastBits(n); most <= MaxLength; most++ {
				checkBest(t, counts[:n], most)
			}
		}
	}
}

// P4.4: many counts; as many as there is room for within the bound.
func TestBestOfMany(t *testing.T) {
	r := dice()
	equal, steep, wide := make([]int, MaxSymbols), make([]int, MaxSymbols), make([]int, MaxSymbols)
	for i := range MaxSymbols {
		equal[i] = MaxCount
		steep[i] = min(1<<(i/8), MaxCount)
		wide[i] = r.IntN(MaxCount + 1)
	}
	for _, counts := range [][]int{equal, steep, wide} {
		for _, most := range []int{9, MaxLength} {
			checkBest(t, counts, most)
		}
		checkBest(t, counts[:256], 8)
	}
	for most := 1; most <= 8; most++ {
		n := 1 << most
		checkBest(t, wide[:n], most)
		if lengths, e := Lengths(wide[:n+1], most); lengths != nil || e != api.ErrForm {
			t.Errorf("%d counts within %d: %v, %d", n+1, most, lengths, e)
		}
	}
}

// P4.4: the first error is told, and nothing beside it.
func TestWrongCounts(t *testing.T) {
	many := func(n, count int) []int {
		return slices.Repeat([]int{count}, n)
	}
	for _, c := range []struct {
		counts []int
		most   int
		want   api.Errno
	}{
		{many(321, 0), 15, api.ErrBig},
		{many(321, 1), 0, api.ErrBig},
		{many(321, -1), 16, api.ErrBig},
		{many(321, 1), 1, api.ErrBig},
		{nil, 0, api.ErrArg},
		{nil, 16, api.ErrArg},
		{[]int{1}, 0, api.ErrArg},
		{[]int{1, 2}, -1, api.ErrArg},
		{[]int{1, 2}, 16, api.ErrArg},
		{[]int{1, 2}, math.MinInt, api.ErrArg},
		{[]int{1, 2}, math.MaxInt, api.ErrArg},
		{[]int{1, -1}, 15, api.ErrArg},
		{[]int{1, MaxCount + 1}, 15, api.ErrArg},
		{[]int{math.MinInt}, 15, api.ErrArg},
		{[]int{math.MaxInt}, 15, api.ErrArg},
		{[]int{1, 1, 1, -1}, 1, api.ErrArg},
		{append(many(319, 1), MaxCount+1), 1, api.ErrArg},
		{[]int{1, 1, 1}, 1, api.ErrForm},
		{[]int{1, 0, 1, 0, 1}, 1, api.ErrForm},
		{many(5, 1), 2, api.ErrForm},
		{many(257, 1), 8, api.ErrForm},
		{many(320, MaxCount), 8, api.ErrForm},
	} {
		if lengths, e := Lengths(c.counts, c.most); e != c.want || lengths != nil {
			t.Errorf("Lengths of %d counts within %d: %v, %d, not %d", len(c.counts), c.most, lengths, e, c.want)
		}
	}
	if lengths, e := Lengths([]int{1, 0, 1, 0}, 1); e != api.OK || !slices.Equal(lengths, []int{1, 0, 1, 0}) {
		t.Errorf("counts of 0 take no room: %v, %d", lengths, e)
	}
}

// K3: what is handed in stays as it is, with the spare room behind it; answers share no memory with it, nor with each other.
func TestMemory(t *testing.T) {
	room := []int{3, 1, 2, 3, 77, 78}
	lengths := room[:4]
	tree, e := Plant(lengths)
	first, e1 := Codes(lengths)
	second, e2 := Codes(lengths)
	if e != api.OK || e1 != api.OK || e2 != api.OK || !slices.Equal(room, []int{3, 1, 2, 3, 77, 78}) {
		t.Fatalf("lengths that were handed in: %v", room)
	}
	first[0] = Code{}
	if second[0] != (Code{Bits: 6, Len: 3}) {
		t.Error("two answers of Codes share memory")
	}
	lengths[0], lengths[1] = 1, 3
	if s, e := tree.Next(bitio.Of("\x00")); s != 1 || e != api.OK {
		t.Errorf("the tree has kept the lengths: %d, %d", s, e)
	}
	room = []int{9, 1, 5, 0, 1, 77, 78}
	counts := room[:5]
	one, _ := Lengths(counts, 15)
	other, _ := Lengths(counts, 15)
	one[0] = 50
	if !slices.Equal(room, []int{9, 1, 5, 0, 1, 77, 78}) || other[0] != 1 {
		t.Errorf("Lengths: %v, %v", room, other)
	}
}

// K4: a tree is not changed by reading, and two sources may be read by one.
func TestOneTreeTwoSources(t *testing.T) {
	tree, _ := Plant([]int{2, 1, 3, 3})
	x, y := bitio.Of("\xff"), bitio.Of("\x00")
	for range 2 {
		a, e := tree.Next(x)
		b, e2 := tree.Next(y)
		if a != 3 || b != 1 || e != api.OK || e2 != api.OK {
			t.Errorf("Next: %d, %d, %d, %d", a, e, b, e2)
		}
	}
}
