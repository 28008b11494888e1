package chunker

import (
	"math"
	"math/rand/v2"
	"slices"
	"strings"
	"testing"
	"unsafe"

	"cellarer/api"
	"cellarer/poly"
)

// dice: the same numbers in every run.
func dice() *rand.Rand {
	return rand.New(rand.NewPCG(11, 12))
}

// randomText: n bytes, each one of the first few.
func randomText(r *rand.Rand, n, few int) string {
	out := make([]byte, n)
	for i := range out {
		out[i] = byte(r.IntN(few))
	}
	return string(out)
}

// texts: ordinary ones, and some that repeat themselves, of noughts, shorter than the window.
func texts() []string {
	r := dice()
	out := []string{
		"", "a", "\x00", "\xff", "0123456789abcde", "0123456789abcdef", "0123456789abcdefg",
		strings.Repeat("\x00", 100), strings.Repeat("a", 3000), strings.Repeat("0123456789abcdef", 200), strings.Repeat("\x00a", 500),
		strings.Repeat("\x00", 40) + randomText(r, 500, 256) + strings.Repeat("\x00", 40),
		randomText(r, 20, 256) + strings.Repeat("\x00", 30) + randomText(r, 20, 256),
	}
	for range 10 {
		out = append(out, randomText(r, r.IntN(64), 256), randomText(r, 2000+r.IntN(4000), 256), randomText(r, r.IntN(3000), 2))
	}
	return out
}

// confs: of every bit, and with each bound at its edges.
func confs() []Conf {
	out := []Conf{
		{1, 0, 1}, {1, 0, 3}, {3, 0, 3}, {2, 0, 9}, {1, 20, 1}, {16, 20, 16}, {1, 20, 4096}, {4096, 0, 4096}, {4095, 1, 4096}, {4096, 20, 4096},
		{64, 7, 1024}, {64, 8, 1024}, {15, 3, 100}, {16, 3, 100}, {17, 3, 100}, {1, 1, 2}, {1, 4, 50}, {100, 2, 101},
	}
	for bits := range 21 {
		out = append(out, Conf{1, bits, 4096})
	}
	return out
}

// fingerprint: of a text's last byte, by the document's words.
func fingerprint(s string) poly.P {
	f, _ := poly.Of(s[max(0, len(s)-16):], 0x3da3358b4dc173)
	return f
}

// split: a text's chunks, by the document's words.
func split(s string, c Conf) []string {
	var out []string
	begin := 0
	for i := 1; i <= len(s); i++ {
		size := i - begin
		if size == c.Max || size >= c.Min && uint64(fingerprint(s[:i]))%(1<<c.Bits) == 0 || i == len(s) {
			out = append(out, s[begin:i])
			begin = i
		}
	}
	return out
}

func sizes(l []string) []int {
	var out []int
	for _, s := range l {
		out = append(out, len(s))
	}
	return out
}

func mustSplit(t *testing.T, s string, c Conf) []string {
	t.Helper()
	l, e := Split(s, c)
	if e != api.OK {
		t.Fatalf("Split of %d bytes with %v: %d", len(s), c, e)
	}
	return l
}

func mustNew(t *testing.T, c Conf) *Chunker {
	t.Helper()
	k, e := New(c)
	if e != api.OK || k == nil {
		t.Fatalf("New with %v: %d", c, e)
	}
	return k
}

// The rest that is written down is the one that poly says.
func TestOldest(t *testing.T) {
	if want, e := poly.P(2).Power(8*(Window-1), Prime); e != api.OK || oldest != want {
		t.Errorf("%x, not %x", uint64(oldest), uint64(want))
	}
	if Prime != 0x3da3358b4dc173 || Window != 16 {
		t.Errorf("Prime %x, Window %d", uint64(Prime), Window)
	}
}

// P10.1: the document's examples.
func TestExamples(t *testing.T) {
	if l := mustSplit(t, "aaaa", Conf{1, 0, 3}); !slices.Equal(l, []string{"a", "a", "a", "a"}) {
		t.Errorf("aaaa: %q", l)
	}
	for _, s := range []string{strings.Repeat("x", 40), strings.Repeat("\x00", 40), randomText(dice(), 40, 256)} {
		if l := mustSplit(t, s, Conf{16, 20, 16}); !slices.Equal(sizes(l), []int{16, 16, 8}) {
			t.Errorf("40 bytes: %v", sizes(l))
		}
	}
	for _, c := range confs() {
		if l := mustSplit(t, "", c); len(l) != 0 {
			t.Errorf("the empty text with %v: %q", c, l)
		}
	}
}

type checked struct {
	c Conf
	e api.Errno
}

func checks() []checked {
	return []checked{
		{Conf{4, 0, 3}, api.ErrArg}, {Conf{1, 0, 5000}, api.ErrBig}, {Conf{}, api.ErrArg},
		{Conf{0, 0, 3}, api.ErrArg}, {Conf{-1, 0, 3}, api.ErrArg}, {Conf{math.MinInt, 0, 3}, api.ErrArg}, {Conf{0, 0, 0}, api.ErrArg},
		{Conf{1, 0, 0}, api.ErrArg}, {Conf{1, 0, -1}, api.ErrArg}, {Conf{1, 0, math.MinInt}, api.ErrArg}, {Conf{math.MaxInt, 0, 4096}, api.ErrArg},
		{Conf{1, -1, 3}, api.ErrArg}, {Conf{1, 21, 3}, api.ErrArg}, {Conf{1, 64, 3}, api.ErrArg}, {Conf{1, math.MinInt, 3}, api.ErrArg}, {Conf{1, math.MaxInt, 3}, api.ErrArg},
		{Conf{1, 0, 4097}, api.ErrBig}, {Conf{4097, 20, 4097}, api.ErrBig}, {Conf{1, 0, math.MaxInt}, api.ErrBig}, {Conf{math.MaxInt, 0, math.MaxInt}, api.ErrBig},
		// Both: the first one that the chapter names.
		{Conf{0, 0, 4097}, api.ErrArg}, {Conf{1, 21, 4097}, api.ErrArg}, {Conf{1, -1, 4097}, api.ErrArg}, {Conf{4098, 0, 4097}, api.ErrArg}, {Conf{math.MinInt, 21, math.MaxInt}, api.ErrArg},
	}
}

// P10.1, P10.2, K2: each bound, and one beyond it; New and Split have the same error, and nothing beside it.
func TestCheck(t *testing.T) {
	for _, x := range checks() {
		if e := Check(x.c); e != x.e {
			t.Errorf("Check of %v: %d, not %d", x.c, e, x.e)
		}
		if k, e := New(x.c); k != nil || e != x.e {
			t.Errorf("New of %v: %d, not %d", x.c, e, x.e)
		}
		for _, s := range []string{"", "abc"} {
			if l, e := Split(s, x.c); len(l) != 0 || e != x.e {
				t.Errorf("Split with %v: %q, %d, not %d", x.c, l, e, x.e)
			}
		}
	}
	for _, c := range confs() {
		if e := Check(c); e != api.OK {
			t.Errorf("Check of %v: %d", c, e)
		}
	}
}

// P10.1, P10.3: by the document's words; put together they are the text.
func TestSplit(t *testing.T) {
	for _, s := range texts() {
		for _, c := range confs() {
			l := mustSplit(t, s, c)
			if !slices.Equal(l, split(s, c)) {
				t.Fatalf("%.20q with %v: %v, not %v", s, c, sizes(l), sizes(split(s, c)))
			}
			if strings.Join(l, "") != s {
				t.Fatalf("%.20q with %v: another text", s, c)
			}
		}
	}
}

// P10.1: chunks within their bounds, and of all lengths in between: neither bound makes all of them.
func TestBounds(t *testing.T) {
	s := randomText(dice(), 200000, 256)
	l := mustSplit(t, s, Conf{64, 7, 256})
	seen := map[int]int{}
	for i, n := range sizes(l) {
		if n > 256 || n < 64 && i < len(l)-1 {
			t.Fatalf("number %d has %d bytes", i, n)
		}
		seen[n]++
	}
	if len(seen) < 150 || seen[64] == 0 || seen[256] < 20 {
		t.Errorf("%d lengths, %d of the least, %d of the greatest", len(seen), seen[64], seen[256])
	}
}

// P10.1: what can be told by hand.
func TestEnds(t *testing.T) {
	noughts := strings.Repeat("\x00", 15)
	for _, x := range []struct {
		s    string
		c    Conf
		want []int
	}{
		// A fingerprint of 0: every byte may be an end.
		{noughts[:5], Conf{1, 20, 9}, []int{1, 1, 1, 1, 1}},
		{noughts[:10], Conf{3, 20, 9}, []int{3, 3, 3, 1}},
		{noughts[:10], Conf{5, 20, 9}, []int{5, 5}},
		{noughts[:10], Conf{10, 20, 10}, []int{10}},
		{noughts[:10], Conf{11, 20, 11}, []int{10}},
		// "a" is 61: odd; "`" is 60: its lowest five bits are 0, not its sixth.
		{"aaaa", Conf{1, 1, 4}, []int{4}},
		{"aaaa", Conf{1, 1, 3}, []int{3, 1}},
		{"`", Conf{1, 5, 4}, []int{1}},
		{"`a", Conf{1, 5, 4}, []int{1, 1}},
		{"`a", Conf{1, 6, 4}, []int{2}},
		{"`a", Conf{2, 5, 4}, []int{2}},
		// The second chunk's first byte: a 0, but of the text 10000.
		{"\x01\x00\x00\x00", Conf{1, 17, 2}, []int{2, 2}},
		{"\x01\x00\x00\x00", Conf{1, 16, 2}, []int{2, 1, 1}},
		// A 1 and 15 noughts: x^120, whose rest ends in the bits 10; with one more the 1 is out of the window.
		{"\x01" + noughts + "aaa", Conf{16, 1, 40}, []int{16, 3}},
		{"\x01" + noughts + "\x00aaa", Conf{16, 2, 40}, []int{17, 3}},
		{"\x01" + noughts + "\x00aaa", Conf{16, 20, 40}, []int{17, 3}},
	} {
		if l := mustSplit(t, x.s, x.c); !slices.Equal(sizes(l), x.want) {
			t.Errorf("%q with %v: %v, not %v", x.s, x.c, sizes(l), x.want)
		}
	}
}

// P10.1: the seventeenth byte's fingerprint is of 16 bytes: texts by which it isn't that of all 17 tell it.
func TestWindow(t *testing.T) {
	r := dice()
	found := 0
	for range 20000 {
		s := randomText(r, 17, 256)
		last, _ := poly.Of(s[1:], Prime)
		all, _ := poly.Of(s, Prime)
		if (last%16 == 0) == (all%16 == 0) {
			continue
		}
		found++
		if l := mustSplit(t, s+"~", Conf{17, 4, 40}); (len(l) == 2) != (last%16 == 0) {
			t.Fatalf("%q: %v", s, sizes(l))
		}
	}
	if found < 1000 {
		t.Errorf("%d texts alone tell the window", found)
	}
}

// inParts: the chunks of a text that is cut at these places.
func inParts(t *testing.T, s string, c Conf, places ...int) []string {
	t.Helper()
	k := mustNew(t, c)
	var out []string
	from := 0
	for _, to := range append(places, len(s)) {
		out = append(out, k.Write(s[from:to])...)
		from = to
	}
	return append(out, k.Close()...)
}

// P10.2: two parts, cut anywhere.
func TestTwoParts(t *testing.T) {
	s := randomText(dice(), 300, 256)
	for _, c := range confs() {
		want := mustSplit(t, s, c)
		for i := range len(s) + 1 {
			if l := inParts(t, s, c, i); !slices.Equal(l, want) {
				t.Fatalf("with %v, cut at %d: %v, not %v", c, i, sizes(l), sizes(want))
			}
		}
	}
}

// P10.2: many parts, empty ones among them.
func TestManyParts(t *testing.T) {
	r := dice()
	for _, s := range texts() {
		for _, c := range confs() {
			var places []int
			for range r.IntN(40) {
				places = append(places, r.IntN(len(s)+1))
			}
			slices.Sort(places)
			if l := inParts(t, s, c, places...); !slices.Equal(l, split(s, c)) {
				t.Fatalf("%.20q with %v, cut at %v: %v", s, c, places, sizes(l))
			}
		}
	}
}

// P10.2: byte by byte: each Write says just the chunk that ends with its byte.
func TestByteByByte(t *testing.T) {
	s := randomText(dice(), 3000, 256)
	for _, c := range confs() {
		k := mustNew(t, c)
		want := split(s, c)
		end := 0 // of the next chunk
		for i := range len(s) {
			if i == end {
				end += len(want[0])
			}
			l := k.Write(s[i : i+1])
			full := i+1 == end && (len(want) > 1 || len(want[0]) == c.Max || len(want[0]) >= c.Min && uint64(fingerprint(s))%(1<<c.Bits) == 0)
			if full != (len(l) == 1) || len(l) > 1 || full && l[0] != want[0] {
				t.Fatalf("with %v, at %d: %v", c, i, sizes(l))
			}
			if full {
				want = want[1:]
			}
		}
		if l := k.Close(); !slices.Equal(l, want) {
			t.Fatalf("with %v: %v is left, not %v", c, sizes(l), sizes(want))
		}
	}
}

// P10.2: behind Close: nothing; nor is there anything if nothing was written, or if the last byte was an end.
func TestClose(t *testing.T) {
	for _, s := range []string{"", "ab", "abc", "abcabc", "abcd"} {
		k := mustNew(t, Conf{3, 0, 3})
		k.Write("")
		k.Write(s)
		left := s[len(s)-len(s)%3:]
		if l := k.Close(); strings.Join(l, "") != left || len(l) != min(len(left), 1) {
			t.Errorf("%q: %q is left, not %q", s, l, left)
		}
		for range 2 {
			if l := k.Write("abcdefg"); len(l) != 0 {
				t.Errorf("%q: Write behind Close: %q", s, l)
			}
			if l := k.Close(); len(l) != 0 {
				t.Errorf("%q: Close behind Close: %q", s, l)
			}
		}
	}
}

// P10.4: of every beginning all chunks but the last one are those of the whole text; and Write says them as soon as they have ended.
func TestBehind(t *testing.T) {
	r := dice()
	for _, c := range confs() {
		s := randomText(r, 600, 256)
		whole := mustSplit(t, s, c)
		for n := range len(s) {
			l := mustSplit(t, s[:n], c)
			if len(l) > 0 && !slices.Equal(l[:len(l)-1], whole[:len(l)-1]) {
				t.Fatalf("with %v, %d bytes: %v, not as %v", c, n, sizes(l), sizes(whole))
			}
		}
		at := 0
		for i, chunk := range whole[:len(whole)-1] {
			at += len(chunk)
			other := mustSplit(t, s[:at]+randomText(r, 100, 256), c)
			if !slices.Equal(other[:i+1], whole[:i+1]) {
				t.Fatalf("with %v, another text behind %d chunks: %v, not as %v", c, i+1, sizes(other), sizes(whole))
			}
		}
	}
}

// Texts that are alike have chunks that are the same, whatever stands ahead.
func TestAlike(t *testing.T) {
	r := dice()
	s := randomText(r, 30000, 256)
	c := Conf{64, 7, 1024}
	seen := map[string]bool{}
	for _, chunk := range mustSplit(t, s, c) {
		seen[chunk] = true
	}
	for _, other := range []string{"ahead" + s, s[7:], s[:15000] + "x" + s[15001:], s[:15000] + s[15100:]} {
		fresh := 0
		for _, chunk := range mustSplit(t, other, c) {
			if !seen[chunk] {
				fresh++
			}
		}
		if fresh > 5 {
			t.Errorf("%d chunks of %d are new", fresh, len(seen))
		}
	}
}

// within: does a text lie in another one's memory?
func within(s, whole string) bool {
	at, from := uintptr(unsafe.Pointer(unsafe.StringData(s))), uintptr(unsafe.Pointer(unsafe.StringData(whole)))
	return at >= from && at < from+uintptr(len(whole))
}

// P10.5, K3: chunks are no pieces of the text, nor of one another.
func TestNewMemory(t *testing.T) {
	s := randomText(dice(), 3000, 256)
	for _, c := range []Conf{{2, 0, 2}, {64, 7, 1024}, {4096, 0, 4096}} {
		k := mustNew(t, c)
		parts := append(append(k.Write(s[:1000]), k.Write(s[1000:])...), k.Close()...)
		l := append(parts, mustSplit(t, s, c)...)
		for i, chunk := range l {
			if within(chunk, s) {
				t.Fatalf("with %v: number %d lies in the text", c, i)
			}
			for j := range i {
				if within(chunk, l[j]) || within(l[j], chunk) {
					t.Fatalf("with %v: number %d lies in number %d", c, i, j)
				}
			}
		}
	}
}

// P10.5, K3: nothing that was handed in is kept, and no list that was answered.
func TestKeepsNothing(t *testing.T) {
	c := Conf{3, 0, 3}
	k := mustNew(t, c)
	text := []byte("abcdefgh")
	l := k.Write(unsafe.String(&text[0], len(text)))
	for i := range text {
		text[i] = 'x'
	}
	if !slices.Equal(l, []string{"abc", "def"}) {
		t.Errorf("a text that became another one: %q", l)
	}
	l[0], l[1] = "", ""
	l = append(l[:0], "", "", "")
	if more := k.Write("ijklm"); !slices.Equal(more, []string{"ghi", "jkl"}) || l[0] != "" {
		t.Errorf("behind lists that became others: %q", more)
	}
	if last := k.Close(); !slices.Equal(last, []string{"m"}) {
		t.Errorf("at the end: %q", last)
	}
}

// K4: chunkers, and copies of one, know nothing of each other.
func TestApart(t *testing.T) {
	s, other := randomText(dice(), 5000, 256), strings.Repeat("other", 700)
	for _, c := range confs() {
		k, apart := mustNew(t, c), mustNew(t, c)
		out := k.Write(s[:2000])
		apart.Write(other)
		twin := *k
		same := slices.Clone(out)
		apart.Close()
		twinLeft := twin.Write(s[2000:])
		twinLeft = append(twinLeft, twin.Close()...)
		out = append(out, k.Write(other)...)
		out = append(out, k.Close()...)
		if !slices.Equal(append(same, twinLeft...), split(s, c)) || !slices.Equal(out, split(s[:2000]+other, c)) {
			t.Errorf("with %v", c)
		}
	}
}
