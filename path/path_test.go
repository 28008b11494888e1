package path

import (
	"math"
	"math/rand/v2"
	"slices"
	"strings"
	"testing"
	"unicode"
	"unicode/utf8"
)

// dice: the same numbers in every run.
func dice() *rand.Rand {
	return rand.New(rand.NewPCG(15, 16))
}

// some: up to n of these pieces, one behind the other.
func some(r *rand.Rand, n int, pieces ...string) string {
	var out strings.Builder
	for range r.IntN(n + 1) {
		out.WriteString(pieces[r.IntN(len(pieces))])
	}
	return out.String()
}

// mixed: runes of all widths, great and small letters, broken bytes, slashes.
func mixed(r *rand.Rand) string {
	return some(r, 12, "a", "Z", "/", ".", "é", "À", "×", "Ω", "Я", "Ё", "日", "\ufffd", "😀", "\x00", "\x80", "\xff", "\xc3", "\xe6\x97", "\xf0\x9f", "\xed\xa0\x80", "\xc0\x80")
}

// broken: rows of bytes that are no code point's, each byte of which is a rune of its own.
func broken() []string {
	return []string{
		"\x80", "\xbf", "\xff", "\xfe", "\xc3", "\xe9", "\xe6\x97", "\xf0\x9f\x98", // bytes are wanting, or no beginning
		"\xc0\x80", "\xc1\xbf", "\xe0\x80\x80", "\xe0\x9f\xbf", "\xf0\x80\x80\x80", "\xf0\x8f\xbf\xbf", // more bytes than are needed
		"\xed\xa0\x80", "\xed\xbf\xbf", // d800, dfff
		"\xf4\x90\x80\x80", "\xf5\x80\x80\x80", "\xf8\x88\x80\x80\x80", // above 10ffff
	}
}

func checkName(t *testing.T, s string, want bool) {
	t.Helper()
	if Name(s) != want {
		t.Errorf("Name(%q): %t", s, !want)
	}
}

func checkIs(t *testing.T, s string, want bool) {
	t.Helper()
	if Is(s) != want {
		t.Errorf("Is(%q): %t", s, !want)
	}
}

// P11.1 to P11.3: the document's examples.
func TestExamples(t *testing.T) {
	for _, s := range []string{"a", "a/b", "é/日"} {
		checkIs(t, s, true)
	}
	for _, s := range []string{"", "/a", "a/", "a//b", "a/..", "a/./b", "\xff", "a\x00"} {
		checkIs(t, s, false)
	}
	if Compare("a/b", "a-b") != -1 || Compare("a", "a/b") != -1 {
		t.Error("Compare")
	}
	if s := Fold("ÀΩЯЁ"); s != "àωяё" {
		t.Errorf("Fold: %q", s)
	}
	if Count("é日") != 2 || Count("\xe9\xff") != 2 || Cut("é日", 1) != "é" {
		t.Error("Count, Cut")
	}
	if MaxPath != 200 {
		t.Errorf("MaxPath: %d", MaxPath)
	}
}

// P11.1: each code point by itself, in front, within and behind.
func TestNameRunes(t *testing.T) {
	for r := range rune(unicode.MaxRune + 1) {
		if !utf8.ValidRune(r) {
			continue
		}
		want := r >= 32 && r != 127 && r != '/'
		c := string(r)
		checkName(t, "a"+c, want)
		checkName(t, c+"a", want)
		checkName(t, "a"+c+"é", want)
		checkName(t, c, want && r != '.')
	}
}

// P11.1: broken bytes anywhere; fffd, which stands for them elsewhere, is a rune as any.
func TestNameBroken(t *testing.T) {
	for _, s := range broken() {
		checkName(t, s, false)
		checkName(t, "a"+s, false)
		checkName(t, s+"a", false)
		checkName(t, "\ufffd"+s+"\ufffd", false)
		checkIs(t, "a/"+s+"/b", false)
	}
	checkName(t, "\ufffd", true)
	checkName(t, "\ufffda\ufffd\ufffd", true)
	checkName(t, "\ue000\ud7ff\U0010ffff", true)
}

// P11.1: the bounds are of bytes, not of runes.
func TestNameBounds(t *testing.T) {
	checkName(t, "", false)
	for n := 1; n <= 130; n++ {
		checkName(t, strings.Repeat("a", n), n <= 60)
	}
	for n := 1; n <= 40; n++ {
		checkName(t, strings.Repeat("é", n), n <= 30)
		checkName(t, strings.Repeat("日", n), n <= 20)
		checkName(t, strings.Repeat("😀", n), n <= 15)
	}
	checkName(t, strings.Repeat("a", 1<<20), false)
}

// P11.1: of dots alone just one and two are none.
func TestNameDots(t *testing.T) {
	for s, want := range map[string]bool{".": false, "..": false, "...": true, "....": true, ".a": true, "a.": true, "..a": true, ". ": true, " ": true, "-": true, "\\": true, "~": true} {
		checkName(t, s, want)
		checkIs(t, s, want)
		checkIs(t, "b/"+s, want)
		checkIs(t, s+"/b", want)
		checkIs(t, "b/"+s+"/b", want)
	}
}

// P11.1: how many names, and how many bytes in all.
func TestIsBounds(t *testing.T) {
	for n := 1; n <= 20; n++ {
		checkIs(t, strings.Repeat("a/", n-1)+"a", n <= 8)
	}
	long := strings.Repeat("a", 60)
	checkIs(t, long, true)
	checkIs(t, long+"a", false)
	checkIs(t, "b/"+long+"a", false)
	three := long + "/" + long + "/" + long + "/"
	for n := 1; n <= 60; n++ {
		checkIs(t, three+strings.Repeat("b", n), len(three)+n <= 200)
	}
	// Two bytes each, which end at 200 and at 201.
	checkIs(t, three+"b"+strings.Repeat("é", 8), true)
	checkIs(t, three+strings.Repeat("é", 9), false)
	checkIs(t, strings.Repeat("a/", 1<<20), false)
	checkIs(t, strings.Repeat("/", 8), false)
}

// P11.1: just what has names alone between its slashes is a path.
func TestIsParts(t *testing.T) {
	r := dice()
	yes := 0
	for range 30000 {
		s := some(r, 12, "a", "b", "/", "/", ".", "..", "é", "\ufffd", "cccccccccccccccc")
		if r.IntN(8) == 0 {
			s += broken()[r.IntN(len(broken()))]
		}
		parts := strings.Split(s, "/")
		want := len(parts) <= 8 && len(s) <= 200
		for _, p := range parts {
			want = want && Name(p)
		}
		checkIs(t, s, want)
		if want {
			yes++
		}
	}
	if yes < 1000 {
		t.Errorf("%d paths: too few to tell", yes)
	}
}

// P11.1: of any text.
func TestParentBase(t *testing.T) {
	for _, c := range [][3]string{
		{"", "", ""}, {"a", "", "a"}, {"a/b", "a", "b"}, {"a/b/c", "a/b", "c"}, {"é/日", "é", "日"},
		{"/", "", ""}, {"/a", "", "a"}, {"a/", "a", ""}, {"//", "/", ""}, {"a//b", "a/", "b"}, {"//a", "/", "a"},
		{"..", "", ".."}, {"a/..", "a", ".."}, {"\xff/\xfe", "\xff", "\xfe"}, {"\x00", "", "\x00"}, {"a\\b", "", "a\\b"},
	} {
		if p, b := Parent(c[0]), Base(c[0]); p != c[1] || b != c[2] {
			t.Errorf("%q: %q and %q", c[0], p, b)
		}
	}
	r := dice()
	for range 10000 {
		s := mixed(r)
		p, b := Parent(s), Base(s)
		if strings.Contains(b, "/") || strings.Contains(s, "/") && p+"/"+b != s || !strings.Contains(s, "/") && (p != "" || b != s) {
			t.Fatalf("%q: %q and %q", s, p, b)
		}
	}
}

// P11.2: by hand.
func TestCompare(t *testing.T) {
	for _, c := range [][2]string{
		{"", "a"}, {"", "/"}, {"", "/a"}, {"/", "//"}, {"/", "/a"}, {"/a", "a"}, {"/", "\x00"},
		{"a", "a/"}, {"a/", "a/b"}, {"a", "a/b"}, {"a/b", "a/b/c"}, {"a/b/c", "a/c"}, {"a/b/z", "a/bb"},
		{"a/z", "a-b"}, {"a/z", "a "}, {"a/z", "a\x00"}, {"a/\xff", "a."}, {"a/z/z", "a.z"}, {"a//z", "a/a"},
		{"a", "b"}, {"a", "aa"}, {"aa", "b"}, {"Z", "a"}, {"z", "é"}, {"é", "日"}, {"\x7f", "\x80"}, {"日", "\xff"},
		{"a/b/c/d/e/f/g/h", "a/b/c/d/e/f/g/h/i"}, {"a/b/c/d/e/f/g/h/i", "a/b/c/d/e/f/g/i"},
	} {
		if Compare(c[0], c[1]) != -1 || Compare(c[1], c[0]) != 1 {
			t.Errorf("%q and %q: %d, and back %d", c[0], c[1], Compare(c[0], c[1]), Compare(c[1], c[0]))
		}
		if Compare(c[0], c[0]) != 0 || Compare(c[1], c[1]) != 0 {
			t.Errorf("%q or %q isn't like itself", c[0], c[1])
		}
	}
	long := strings.Repeat("/", 1<<20)
	if Compare(long, long) != 0 || Compare(long, long+"/") != -1 || Compare(long+"a", long) != 1 {
		t.Error("long ones")
	}
}

// P11.2: as lists of parts.
func TestCompareParts(t *testing.T) {
	r := dice()
	for range 50000 {
		a := some(r, 7, "a", "b", "/", "/", "-", "\x00", "\xff", "é")
		b := some(r, 7, "a", "b", "/", "/", "-", "\x00", "\xff", "é")
		if r.IntN(3) == 0 {
			b = a + b
		}
		want := slices.Compare(strings.Split(a, "/"), strings.Split(b, "/"))
		if got := Compare(a, b); got != want {
			t.Fatalf("%q and %q: %d, not %d", a, b, got, want)
		}
	}
}

// P11.2: an order: of any two unlike ones one is ahead, and what is ahead of one is ahead of all behind it.
func TestCompareOrder(t *testing.T) {
	l := []string{""}
	for from := 0; len(l[from]) < 3; from++ {
		for _, c := range []string{"/", "a", "-", "b"} {
			l = append(l, l[from]+c)
		}
	}
	for _, a := range l {
		for _, b := range l {
			x := Compare(a, b)
			if x != -Compare(b, a) || (x == 0) != (a == b) {
				t.Fatalf("%q and %q: %d, and back %d", a, b, x, Compare(b, a))
			}
			if x != -1 {
				continue
			}
			for _, c := range l {
				if Compare(b, c) == -1 && Compare(a, c) != -1 {
					t.Fatalf("%q, %q, %q: not in one order", a, b, c)
				}
			}
		}
	}
}

// P11.2: what is in a folder stands just behind it.
func TestCompareFolders(t *testing.T) {
	r := dice()
	for range 300 {
		var l []string
		for range 60 {
			s := some(r, 5, "a", "b", "/", "-", ".", "é")
			if !slices.Contains(l, s) && Is(s) {
				l = append(l, s)
			}
		}
		slices.SortFunc(l, Compare)
		for i, folder := range l {
			within := true
			for _, s := range l[i+1:] {
				in := strings.HasPrefix(s, folder+"/")
				if in && !within {
					t.Fatalf("%q: %q stands apart, in %q", folder, s, l)
				}
				within = in
			}
			for _, s := range l[:i] {
				if strings.HasPrefix(s, folder+"/") {
					t.Fatalf("%q: %q stands ahead, in %q", folder, s, l)
				}
			}
		}
	}
}

// folded: by the document's words, code point by code point.
func folded(r rune) rune {
	switch {
	case r >= 0x41 && r <= 0x5a, r >= 0xc0 && r <= 0xd6, r >= 0xd8 && r <= 0xde, r >= 0x391 && r <= 0x3a1, r >= 0x3a3 && r <= 0x3a9, r >= 0x410 && r <= 0x42f:
		// In these rows the library has the same small letters.
		return unicode.ToLower(r)
	case r >= 0x400 && r <= 0x40f:
		return r + 0x50
	}
	return r
}

// P11.3: each code point.
func TestFoldRunes(t *testing.T) {
	changed := 0
	for r := range rune(unicode.MaxRune + 1) {
		if !utf8.ValidRune(r) {
			continue
		}
		want := folded(r)
		if got := Fold(string(r)); got != string(want) {
			t.Fatalf("%x: %q", r, got)
		}
		if want != r {
			changed++
		}
	}
	if changed != 26+30+24+32+16 {
		t.Errorf("%d great letters", changed)
	}
}

// P11.3: the ends of each row, and what stands beside them.
func TestFoldEdges(t *testing.T) {
	for s, want := range map[string]string{
		"@AZ[": "@az[", "`az{": "`az{",
		"\u00bf\u00c0\u00d6\u00d7\u00d8\u00de\u00df": "\u00bf\u00e0\u00f6\u00d7\u00f8\u00fe\u00df",
		"\u0390\u0391\u03a1\u03a2\u03a3\u03a9\u03aa": "\u0390\u03b1\u03c1\u03a2\u03c3\u03c9\u03aa",
		"\u03ff\u0400\u0401\u040f\u0410\u042f\u0430": "\u03ff\u0450\u0451\u045f\u0430\u044f\u0430",
		"\u0100\u0130\u1e9e\u212a\u0460\U00010400":   "\u0100\u0130\u1e9e\u212a\u0460\U00010400",
		"":             "",
		"HeLLo, É/日Z!": "hello, é/日z!",
	} {
		if got := Fold(s); got != want {
			t.Errorf("%q: %q, not %q", s, got, want)
		}
	}
}

// P11.3: broken bytes stay, and so does fffd.
func TestFoldBroken(t *testing.T) {
	for _, s := range broken() {
		if got := Fold("A" + s + "\ufffd" + s + "É"); got != "a"+s+"\ufffd"+s+"é" {
			t.Errorf("%q: %q", s, got)
		}
		if got := Fold(s); got != s {
			t.Errorf("%q: %q", s, got)
		}
	}
	for b := 0x80; b < 0x100; b++ {
		s := string([]byte{byte(b)})
		if Fold(s) != s || Fold(s+"A") != s+"a" {
			t.Errorf("%x: %q, %q", b, Fold(s), Fold(s+"A"))
		}
	}
}

// runes: a text cut by the document's words: the longest beginning of at most four bytes that is one code point's, else a byte.
func runes(s string) []string {
	var out []string
	for s != "" {
		n := 1
		for k := min(4, len(s)); k > 1; k-- {
			if x := []rune(s[:k]); len(x) == 1 && string(x) == s[:k] {
				n = k
				break
			}
		}
		out = append(out, s[:n])
		s = s[n:]
	}
	return out
}

func checkRunes(t *testing.T, s string) {
	t.Helper()
	l := runes(s)
	if Count(s) != len(l) {
		t.Fatalf("Count(%q): %d, not %d", s, Count(s), len(l))
	}
	for n := -1; n <= len(l)+2; n++ {
		want := strings.Join(l[:min(max(n, 0), len(l))], "")
		if got := Cut(s, n); got != want {
			t.Fatalf("Cut(%q, %d): %q, not %q", s, n, got, want)
		}
	}
	if Cut(s, math.MinInt) != "" || Cut(s, math.MaxInt) != s {
		t.Fatalf("Cut(%q) by the least or the greatest number", s)
	}
}

// P11.3: each byte of a broken row is a rune.
func TestCountCutBroken(t *testing.T) {
	for _, s := range broken() {
		if Count(s) != len(s) {
			t.Errorf("Count(%q): %d", s, Count(s))
		}
		checkRunes(t, s)
		checkRunes(t, "日"+s+"日")
	}
}

// P11.3: ordinary ones, and dice.
func TestCountCut(t *testing.T) {
	for s, want := range map[string]int{"": 0, "a": 1, "\x00": 1, "a/b": 3, "é日😀": 3, "\ufffd": 1, "e\u0301": 2} {
		if Count(s) != want {
			t.Errorf("Count(%q): %d", s, Count(s))
		}
		checkRunes(t, s)
	}
	r := dice()
	for range 5000 {
		s := mixed(r)
		checkRunes(t, s)
		if Count(Fold(s)) != Count(s) || Fold(Fold(s)) != Fold(s) {
			t.Fatalf("Fold(%q): %q", s, Fold(s))
		}
	}
	for a := range 256 {
		for b := range 256 {
			checkRunes(t, string([]byte{0xe0, byte(a), byte(b)}))
			checkRunes(t, string([]byte{byte(a), byte(b)}))
		}
	}
}
