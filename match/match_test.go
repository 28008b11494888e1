package match

import (
	"math"
	"math/rand/v2"
	"slices"
	"strings"
	"testing"

	"cellarer/api"
)

// dice: the same numbers in every run.
func dice() *rand.Rand {
	return rand.New(rand.NewPCG(7, 8))
}

// randomText: n bytes, each one of the first few.
func randomText(r *rand.Rand, n, few int) string {
	out := make([]byte, n)
	for i := range out {
		out[i] = byte(r.IntN(few))
	}
	return string(out)
}

func bytesAs(s string) []Token {
	var out []Token
	for i := range len(s) {
		out = append(out, Token{Byte: s[i]})
	}
	return out
}

func repeat(n, dist int) Token {
	return Token{Len: n, Dist: dist}
}

// said: the text of tokens, as the document says it, each byte asked for by itself; false: one isn't a token.
func said(l []Token) (string, bool) {
	var out strings.Builder
	for _, t := range l {
		switch {
		case t.Len == 0 && t.Dist == 0:
			out.WriteByte(t.Byte)
		case t.Byte != 0 || t.Len < 3 || t.Len > 258 || t.Dist < 1 || t.Dist > 32768 || t.Dist > out.Len():
			return "", false
		default:
			back := out.String()[out.Len()-t.Dist:]
			for i := range t.Len {
				out.WriteByte(back[i%t.Dist])
			}
		}
	}
	return out.String(), true
}

type expanded struct {
	l    []Token
	most int
	want string
	e    api.Errno
}

func checkExpand(t *testing.T, cases []expanded) {
	t.Helper()
	for i, c := range cases {
		if s, e := Expand(c.l, c.most); s != c.want || e != c.e {
			t.Errorf("number %d: %.40q, %d, not %.40q, %d", i, s, e, c.want, c.e)
		}
	}
}

// P5.1: the document's examples, and texts that can be told by hand.
func TestExpand(t *testing.T) {
	a := Token{Byte: 'a'}
	ab := bytesAs("ab")
	checkExpand(t, []expanded{
		{[]Token{a, repeat(3, 1)}, 4, "aaaa", api.OK},
		{[]Token{a, repeat(3, 1)}, 3, "", api.ErrBig},
		{[]Token{repeat(3, 1)}, 9, "", api.ErrForm},
		{[]Token{a, repeat(2, 1)}, 9, "", api.ErrForm},
		{nil, 0, "", api.OK},
		{[]Token{}, 9, "", api.OK},
		{[]Token{{}}, 1, "\x00", api.OK},
		{[]Token{{}, repeat(3, 1)}, 4, "\x00\x00\x00\x00", api.OK},
		{[]Token{{Byte: 255}}, 1, "\xff", api.OK},
		{append(slices.Clone(ab), repeat(3, 2)), 5, "ababa", api.OK},
		{append(slices.Clone(ab), repeat(4, 1)), 6, "abbbbb", api.OK},
		{append(slices.Clone(ab), repeat(3, 2), Token{Byte: 'c'}, repeat(6, 6)), 12, "ababacababac", api.OK},
		{append(bytesAs("abcde"), repeat(3, 5), repeat(4, 4)), 12, "abcdeabceabc", api.OK},
		{append(bytesAs("abcd"), repeat(9, 3)), 13, "abcdbcdbcdbcd", api.OK},
		{append(bytesAs("xy"), repeat(258, 2)), 260, strings.Repeat("xy", 130), api.OK},
	})
}

// P5.1: what isn't a token: each bound, and one beyond it.
func TestNoToken(t *testing.T) {
	ahead := bytesAs(strings.Repeat("a", 300))
	for _, x := range []Token{
		{Len: 2, Dist: 1}, {Len: 1, Dist: 1}, {Len: -1, Dist: 1}, {Len: -3, Dist: 1}, {Len: 259, Dist: 1}, {Len: math.MaxInt, Dist: 1}, {Len: math.MinInt, Dist: 1},
		{Len: 3, Dist: 0}, {Len: 3, Dist: -1}, {Len: 258, Dist: 301}, {Len: 3, Dist: math.MaxInt}, {Len: 3, Dist: math.MinInt}, {Len: 3},
		{Dist: 1}, {Dist: -1}, {Byte: 'a', Dist: 1}, {Byte: 'a', Len: 3}, {Byte: 'a', Len: 3, Dist: 1}, {Byte: 1, Len: 258, Dist: 300},
	} {
		checkExpand(t, []expanded{
			{append(slices.Clone(ahead), x), math.MaxInt, "", api.ErrForm},
			{append(slices.Clone(ahead), x, Token{Byte: 'b'}), math.MaxInt, "", api.ErrForm},
		})
	}
	for _, x := range []Token{repeat(3, 1), repeat(258, 1), repeat(3, 300), repeat(258, 300)} {
		checkExpand(t, []expanded{{append(slices.Clone(ahead), x), 300 + x.Len, strings.Repeat("a", 300+x.Len), api.OK}})
	}
}

// P5.1: the window, and one beyond it, of a text that is longer.
func TestWindow(t *testing.T) {
	s := randomText(dice(), 40000, 256)
	ahead := bytesAs(s)
	checkExpand(t, []expanded{
		{append(slices.Clone(ahead), repeat(100, 32768)), 40100, s + s[40000-32768:][:100], api.OK},
		{append(slices.Clone(ahead), repeat(100, 32769)), 40100, "", api.ErrForm},
		{append(slices.Clone(ahead[:32768]), repeat(3, 32768)), 32771, s[:32768] + s[:3], api.OK},
		{append(slices.Clone(ahead[:32767]), repeat(3, 32768)), 32771, "", api.ErrForm},
	})
}

// P5.1, K2: token by token, and of one token ErrForm first.
func TestFirstError(t *testing.T) {
	a, none := Token{Byte: 'a'}, Token{Byte: 'a', Len: 1}
	checkExpand(t, []expanded{
		{[]Token{a}, 0, "", api.ErrBig},
		{[]Token{a}, -1, "", api.ErrBig},
		{[]Token{a}, math.MinInt, "", api.ErrBig},
		{[]Token{none}, 0, "", api.ErrForm},
		{[]Token{none}, -1, "", api.ErrForm},
		{[]Token{repeat(3, 1)}, 0, "", api.ErrForm},
		{[]Token{a, a, none}, 1, "", api.ErrBig},
		{[]Token{a, a, none}, 2, "", api.ErrForm},
		{[]Token{a, repeat(3, 1), none}, 3, "", api.ErrBig},
		{[]Token{a, repeat(3, 2), a}, 1, "", api.ErrForm},
		{[]Token{a, repeat(258, 1)}, 258, "", api.ErrBig},
		{[]Token{a, repeat(258, 1)}, 259, strings.Repeat("a", 259), api.OK},
		{[]Token{a, repeat(258, 1)}, math.MaxInt, strings.Repeat("a", 259), api.OK},
		{nil, -1, "", api.OK},
	})
}

// P5.1: any tokens, held against the document's words; more than MaxOut bytes may come out.
func TestExpandRandom(t *testing.T) {
	r := dice()
	for range 300 {
		var l []Token
		size := 0
		for range r.IntN(60) {
			x := Token{Byte: byte(r.Uint32())}
			if size > 0 && r.IntN(3) == 0 {
				x = repeat(3+r.IntN(256), 1+r.IntN(min(size, 32768)))
			}
			l = append(l, x)
			size += max(x.Len, 1)
		}
		want, ok := said(l)
		if s, e := Expand(l, size); !ok || s != want || e != api.OK {
			t.Fatalf("Expand(%v): %x, %d, not %x", l, s, e, want)
		}
		if s, e := Expand(l, size-1); size > 0 && (s != "" || e != api.ErrBig) {
			t.Fatalf("Expand(%v, one less): %x, %d", l, s, e)
		}
	}
	l := append([]Token{{Byte: 'q'}}, slices.Repeat([]Token{repeat(258, 1)}, 1000)...)
	if s, e := Expand(l, 1000000); s != strings.Repeat("q", 258001) || e != api.OK {
		t.Errorf("a long text: %d bytes, %d", len(s), e)
	}
}

// texts: ordinary ones, those at the bounds, and those whose repeats are far, long, or many.
func texts() []string {
	r := dice()
	far := randomText(r, 700, 256)
	noise := randomText(r, 40000, 256)
	out := []string{
		"", "a", "ab", "aa", "aaa", "aaaa", "abcabc", "abcab", "abab", "\x00\x00\x00\x00\x00", "abcXabcYabcXabcY",
		strings.Repeat("the cellar keeps what the cellarer brings; ", 300),
		strings.Repeat("abcd", 16384), strings.Repeat("x", 40000) + "y", strings.Repeat("ab", 32768), "b" + strings.Repeat("a", 65535),
		far + noise[:32768-700] + far, far + noise[:32768-699] + far, far + noise[:32768-702] + far, far + noise[:32769-700+258] + far,
		noise, randomText(r, api.MaxOut, 256), randomText(r, api.MaxOut, 2), randomText(r, api.MaxOut-1, 4), randomText(r, 5000, 3),
	}
	for n := range 30 {
		out = append(out, randomText(r, n, 2), randomText(r, 10*n, 3), strings.Repeat(far[:n], 40))
	}
	// Ever longer repeats, one behind the other: each place has a longer one next.
	grown := ""
	for n := 1; len(grown)+n < 30000; n++ {
		grown += far[:n%250]
	}
	return append(out, grown)
}

// P5.2: Expand of the tokens is the text, and there are no more of them than bytes.
func TestTokens(t *testing.T) {
	for i, s := range texts() {
		for level := range MaxLevel + 1 {
			l, e := Tokens(s, level)
			if e != api.OK || len(l) > len(s) {
				t.Fatalf("text %d, level %d: %d tokens of %d bytes, %d", i, level, len(l), len(s), e)
			}
			if got, e := Expand(l, len(s)); got != s || e != api.OK {
				t.Fatalf("text %d, level %d: Expand: %d bytes of %d, %d", i, level, len(got), len(s), e)
			}
		}
	}
}

// P5.2: the tokens say the text by the document's words too, and not by Expand's alone.
func TestTokensSaid(t *testing.T) {
	for i, s := range texts() {
		if len(s) > 2000 {
			continue
		}
		for level := range MaxLevel + 1 {
			l, _ := Tokens(s, level)
			if got, ok := said(l); got != s || !ok {
				t.Fatalf("text %d, level %d: %v", i, level, l)
			}
		}
	}
}

// P5.2: at level 0 bytes alone.
func TestLevelNought(t *testing.T) {
	for i, s := range texts() {
		if l, e := Tokens(s, 0); e != api.OK || !slices.Equal(l, bytesAs(s)) {
			t.Errorf("text %d: %d tokens, %d", i, len(l), e)
		}
	}
}

// P5.2: of n equal bytes at most 4 + n / 258 tokens.
func TestEqualBytes(t *testing.T) {
	var sizes []int
	for n := range 800 {
		sizes = append(sizes, n)
	}
	sizes = append(sizes, 32767, 32768, 32769, 33000, 65500, api.MaxOut-1, api.MaxOut)
	for _, n := range sizes {
		for level := 1; level <= MaxLevel; level++ {
			s := strings.Repeat("\xff", n)
			l, e := Tokens(s, level)
			if e != api.OK || len(l) > 4+n/258 {
				t.Fatalf("%d equal bytes, level %d: %d tokens, %d", n, level, len(l), e)
			}
			if got, e := Expand(l, n); got != s || e != api.OK {
				t.Fatalf("%d equal bytes, level %d: %d, %d", n, level, len(got), e)
			}
		}
	}
}

// P5.2: repeats are found at every level above 0, up to the window's edge and not beyond it.
func TestRepeatsAreFound(t *testing.T) {
	r := dice()
	far, noise := randomText(r, 258, 128), randomText(r, 40000, 256)
	for level := 1; level <= MaxLevel; level++ {
		l, _ := Tokens(far+noise[:Window-258]+far, level)
		if !slices.Contains(l, repeat(258, Window)) {
			t.Errorf("level %d: not found at the window's edge", level)
		}
		l, _ = Tokens("abcdefgh-abcdefgh", level)
		if want := append(bytesAs("abcdefgh-"), repeat(8, 9)); !slices.Equal(l, want) {
			t.Errorf("level %d: %v", level, l)
		}
	}
}

// P5.2: the errors, and which comes first.
func TestWrongTokens(t *testing.T) {
	big := strings.Repeat("a", api.MaxOut+1)
	for _, c := range []struct {
		s     string
		level int
		want  api.Errno
	}{
		{"", -1, api.ErrArg}, {"", 10, api.ErrArg}, {"abc", math.MaxInt, api.ErrArg}, {"abc", math.MinInt, api.ErrArg},
		{big, -1, api.ErrArg}, {big, 10, api.ErrArg}, {big, 0, api.ErrBig}, {big, 1, api.ErrBig}, {big, 9, api.ErrBig},
		{big + big, 6, api.ErrBig},
	} {
		if l, e := Tokens(c.s, c.level); len(l) != 0 || e != c.want {
			t.Errorf("%d bytes, level %d: %d tokens, %d", len(c.s), c.level, len(l), e)
		}
	}
	for _, level := range []int{0, 9} {
		if _, e := Tokens(big[1:], level); e != api.OK {
			t.Errorf("MaxOut bytes, level %d: %d", level, e)
		}
	}
}

// P5.3, K4: the same call, the same answer, in new memory.
func TestSameAnswer(t *testing.T) {
	for i, s := range texts() {
		for _, level := range []int{0, 1, 6, 9} {
			one, _ := Tokens(s, level)
			kept := slices.Clone(one)
			other, _ := Tokens(strings.Clone(s), level)
			if !slices.Equal(one, other) {
				t.Fatalf("text %d, level %d: two answers", i, level)
			}
			for j := range one {
				one[j] = Token{Byte: 7, Len: 7, Dist: 7}
			}
			if !slices.Equal(other, kept) {
				t.Fatalf("text %d, level %d: two answers share memory", i, level)
			}
			if third, _ := Tokens(s, level); !slices.Equal(third, kept) {
				t.Fatalf("text %d, level %d: a third answer", i, level)
			}
		}
	}
}

// P5.3, K3: Expand changes nothing of what it is handed, nor the room behind it.
func TestExpandMemory(t *testing.T) {
	room := []Token{{Byte: 'a'}, {Byte: 'b'}, repeat(5, 2), {Byte: 'c'}, repeat(77, 1)}
	kept := slices.Clone(room)
	one, _ := Expand(room[:3], 9)
	other, _ := Expand(room[:3], 9)
	if one != "abababa" || other != one || !slices.Equal(room, kept) {
		t.Errorf("%q, %q, %v", one, other, room)
	}
	room[0].Byte = 'z'
	if one != "abababa" {
		t.Errorf("the answer has changed: %q", one)
	}
}
