package node

import (
	"encoding/binary"
	"fmt"
	"math"
	"math/rand/v2"
	"reflect"
	"runtime"
	"slices"
	"strings"
	"testing"

	"cellarer/api"
	"cellarer/path"
)

// stray is a node of another type; it must not be asked where it stands.
type stray struct{}

func (stray) Path() string { panic("asked") }

// wrapped has all that a folder has, but is another type.
type wrapped struct{ Folder }

// wrappedPlain has all that a file has, but is another type.
type wrappedPlain struct{ Plain }

// dice: the same numbers in every run.
func dice() *rand.Rand {
	return rand.New(rand.NewPCG(17, 18))
}

// sum: 32 bytes, all of them b.
func sum(b byte) string {
	return strings.Repeat(string([]byte{b}), 32)
}

// sums: n of them, no two alike.
func sums(n int) []string {
	var out []string
	for i := range n {
		out = append(out, fmt.Sprintf("%032d", i))
	}
	return out
}

// others: what is no node.
func others() []Node {
	return []Node{nil, &Folder{At: "a"}, &Plain{At: "a"}, &Sym{At: "a", Target: "b"}, stray{}, &stray{}, wrapped{Folder{At: "a"}}, &wrapped{}, wrappedPlain{Plain{At: "a"}}}
}

// num: a number as bytes, by the library.
func num(x uint64) string {
	return string(binary.AppendUvarint(nil, x))
}

// byHand: nodes as bytes, as the document's words go; of any nodes.
func byHand(l ...Node) string {
	out := num(uint64(len(l)))
	for _, n := range l {
		switch x := n.(type) {
		case Folder:
			out += headByHand(1, x.At, x.Mode, x.Time)
		case Plain:
			out += headByHand(2, x.At, x.Mode, x.Time) + num(uint64(x.Size)) + num(uint64(len(x.Chunks)))
			out += strings.Join(x.Chunks, "")
		case Sym:
			out += headByHand(3, x.At, x.Mode, x.Time) + num(uint64(len(x.Target))) + x.Target
		}
	}
	return out
}

func headByHand(kind uint64, at string, mode, time int) string {
	return num(kind) + num(uint64(len(at))) + at + num(uint64(mode)) + num(uint64(time))
}

// like: the same nodes; a nil list and an empty one are the same.
func like(a, b []Node) bool {
	return slices.EqualFunc(a, b, func(x, y Node) bool {
		p, ok := x.(Plain)
		q, also := y.(Plain)
		if !ok || !also {
			return x == y
		}
		same := slices.Equal(p.Chunks, q.Chunks)
		p.Chunks, q.Chunks = nil, nil
		return same && reflect.DeepEqual(p, q)
	})
}

// deep: the same nodes in memory of their own.
func deep(l []Node) []Node {
	out := slices.Clone(l)
	for i, n := range out {
		if p, ok := n.(Plain); ok {
			p.Chunks = slices.Clone(p.Chunks)
			out[i] = p
		}
	}
	return out
}

func checkCheck(t *testing.T, what string, want api.Errno, l ...Node) {
	t.Helper()
	if e := Check(l); e != want {
		t.Errorf("%s: Check: %d, not %d", what, e, want)
	}
	s, e := Encode(l)
	if e != want || e != api.OK && s != "" || e == api.OK && s != byHand(l...) {
		t.Errorf("%s: Encode: %x, %d, not %d", what, s, e, want)
	}
}

func checkDecode(t *testing.T, what, s string, want api.Errno) {
	t.Helper()
	l, e := Decode(s)
	if e != want || e != api.OK && len(l) != 0 {
		t.Errorf("%s: Decode(%x): %d nodes, %d, not %d", what, s, len(l), e, want)
	}
}

// checkBoth: a list that isn't in form, handed in and as bytes, has one error.
func checkBoth(t *testing.T, what string, want api.Errno, l ...Node) {
	t.Helper()
	checkCheck(t, what, want, l...)
	checkDecode(t, what, byHand(l...), want)
}

// tree: one of each kind, and files with and without chunks.
func tree() []Node {
	return []Node{
		Folder{At: "a", Mode: 511, Time: api.MaxTime},
		Plain{At: "a/b", Mode: 420, Time: 1, Size: 300, Chunks: []string{sum('x'), sum(0), sum('x')}},
		Plain{At: "a/c"},
		Folder{At: "a/d"},
		Sym{At: "a/d/e", Mode: 1, Time: 128, Target: "../b"},
		Sym{At: "a-b", Target: "\xff"},
		Plain{At: "é", Size: 1, Chunks: []string{sum(0xff)}},
	}
}

// randomTree: nodes in their order, each in a folder that is there.
func randomTree(r *rand.Rand) []Node {
	folders := []string{""}
	seen := map[string]bool{}
	var l []Node
	for range r.IntN(40) {
		at := folders[r.IntN(len(folders))]
		if at != "" {
			at += "/"
		}
		at += "abc-.d"[r.IntN(6):][:1] + strings.Repeat("é", r.IntN(3))
		if seen[at] || !path.Is(at) {
			continue
		}
		seen[at] = true
		mode, time := r.IntN(512), r.IntN(api.MaxTime+1)>>r.IntN(38)
		switch r.IntN(3) {
		case 0:
			l = append(l, Folder{At: at, Mode: mode, Time: time})
			folders = append(folders, at)
		case 1:
			p := Plain{At: at, Mode: mode, Time: time}
			for range r.IntN(5) {
				p.Chunks = append(p.Chunks, sum(byte(r.IntN(8)*36)))
			}
			if n := len(p.Chunks); n > 0 {
				p.Size = n + r.IntN(api.MaxFile-n+1)
			}
			l = append(l, p)
		case 2:
			l = append(l, Sym{At: at, Mode: mode, Time: time, Target: strings.Repeat("\xfe", 1+r.IntN(200))})
		}
	}
	slices.SortFunc(l, func(a, b Node) int { return path.Compare(a.Path(), b.Path()) })
	return l
}

// P12.1, P12.2: the document's examples.
func TestExamples(t *testing.T) {
	if s, e := Encode(nil); s != "\x00" || e != api.OK {
		t.Errorf("Encode of none: %x, %d", s, e)
	}
	if s, e := Encode([]Node{Folder{At: "a", Mode: 5, Time: 9}}); s != "\x01\x01\x01\x61\x05\x09" || e != api.OK {
		t.Errorf("Encode of a folder: %x, %d", s, e)
	}
	checkDecode(t, "a count alone", "\x01", api.ErrText)
	checkCheck(t, "a file in no folder", api.ErrAbsent, Plain{At: "a/b"})
	checkCheck(t, "a pointer", api.ErrKind, &Folder{At: "a"})
}

// P12.1
func TestPath(t *testing.T) {
	for _, s := range []string{"", "a", "a/b", "//", "\xff", strings.Repeat("a", 1000)} {
		for _, n := range []Node{Folder{At: s, Mode: 1, Time: 2}, Plain{At: s, Size: 1}, Sym{At: s, Target: "z"}} {
			if n.Path() != s {
				t.Errorf("%T: %q, not %q", n, n.Path(), s)
			}
		}
	}
}

// P12.1: files, fit or not, are themselves.
func TestAsPlain(t *testing.T) {
	for _, want := range []Plain{{}, {At: "a/b", Mode: 7, Time: 8, Size: 9, Chunks: []string{"x", "", sum('s')}}, {At: "//", Mode: -1, Time: -2, Size: -3, Chunks: []string{}}} {
		got, ok := AsPlain(want)
		if !ok || !like([]Node{got}, []Node{want}) {
			t.Errorf("AsPlain: %v, %t, not %v", got, ok, want)
		}
		if got := MustPlain(want); !like([]Node{got}, []Node{want}) {
			t.Errorf("MustPlain: %v, not %v", got, want)
		}
	}
	for _, n := range append(others(), Folder{At: "a", Mode: 1}, Sym{At: "a", Target: "b"}) {
		if got, ok := AsPlain(n); ok || !reflect.DeepEqual(got, Plain{}) {
			t.Errorf("AsPlain of a %T: %v, %t", n, got, ok)
		}
	}
}

// P12.1: with all others it panics, as the language says.
func TestMustPlainPanics(t *testing.T) {
	for _, n := range append(others(), Folder{At: "a"}, Sym{At: "a", Target: "b"}) {
		func() {
			defer func() {
				if x, ok := recover().(*runtime.TypeAssertionError); !ok || x == nil {
					t.Errorf("MustPlain of a %T: no such panic", n)
				}
			}()
			MustPlain(n)
		}()
	}
}

// P12.1
func TestKind(t *testing.T) {
	for _, c := range []struct {
		n    Node
		want int
	}{{Folder{}, 1}, {Plain{}, 2}, {Sym{}, 3}, {Folder{At: "//", Mode: -1}, 1}, {(*Folder)(nil), 0}} {
		if got := Kind(c.n); got != c.want {
			t.Errorf("%T: %d", c.n, got)
		}
	}
	for _, n := range others() {
		if got := Kind(n); got != 0 {
			t.Errorf("%T: %d", n, got)
		}
	}
}

// P12.2: each byte, and how many.
func TestTarget(t *testing.T) {
	for b := range 256 {
		for _, s := range []string{"", "a", strings.Repeat("z", 198)} {
			if x := s + string([]byte{byte(b)}) + s[:min(len(s), 1)]; Target(x) != (b != 0) {
				t.Errorf("%q: %t", x, b == 0)
			}
		}
	}
	for n := range 500 {
		if Target(strings.Repeat("é", n)) != (n >= 1 && n <= 100) || Target(strings.Repeat("/", n)) != (n >= 1 && n <= 200) {
			t.Errorf("of %d", n)
		}
	}
}

// P12.2: what each kind may have, at its bounds and beyond.
func TestCheckForm(t *testing.T) {
	form := func(ok bool) api.Errno {
		if ok {
			return api.OK
		}
		return api.ErrForm
	}
	for _, x := range []int{math.MinInt, -1, 0, 1, 511, 512, 1 << 32, math.MaxInt} {
		want := form(x >= 0 && x <= 511)
		checkCheck(t, fmt.Sprint("mode ", x), want, Folder{At: "a", Mode: x})
		checkCheck(t, fmt.Sprint("mode ", x), want, Plain{At: "a", Mode: x})
		checkCheck(t, fmt.Sprint("mode ", x), want, Sym{At: "a", Mode: x, Target: "b"})
	}
	for _, x := range []int{math.MinInt, -1, 0, 1, 253402300799, 253402300800, math.MaxInt} {
		want := form(x >= 0 && x <= 253402300799)
		checkCheck(t, fmt.Sprint("time ", x), want, Folder{At: "a", Time: x})
		checkCheck(t, fmt.Sprint("time ", x), want, Plain{At: "a", Time: x})
		checkCheck(t, fmt.Sprint("time ", x), want, Sym{At: "a", Time: x, Target: "b"})
	}
	for _, s := range []string{"", "b", "a\x00", "\x00", strings.Repeat("b", 200), strings.Repeat("b", 201)} {
		checkBoth(t, "target", form(Target(s)), Sym{At: "a", Target: s})
	}
}

// P12.2: sizes and how many chunks they may have.
func TestCheckPlain(t *testing.T) {
	all := sums(32769)
	for _, c := range []struct {
		size, chunks int
		want         api.Errno
	}{
		{0, 0, api.OK}, {0, 1, api.ErrForm}, {1, 0, api.ErrForm}, {1, 1, api.OK}, {1, 2, api.ErrForm}, {2, 2, api.OK}, {2, 3, api.ErrForm},
		{32768, 0, api.ErrForm}, {32768, 1, api.OK}, {32768, 32768, api.OK}, {32768, 32769, api.ErrForm}, {32769, 1, api.ErrForm}, {32769, 32769, api.ErrForm},
		{1 << 40, 1, api.ErrForm},
	} {
		checkBoth(t, fmt.Sprint(c.size, " bytes, ", c.chunks, " chunks"), c.want, Plain{At: "a", Size: c.size, Chunks: all[:c.chunks]})
	}
	checkCheck(t, "a size below 0", api.ErrForm, Plain{At: "a", Size: -1})
	checkCheck(t, "a size below 0, with a chunk", api.ErrForm, Plain{At: "a", Size: -1, Chunks: all[:1]})
	checkCheck(t, "the least size", api.ErrForm, Plain{At: "a", Size: math.MinInt})
	for n := range 70 {
		want := api.ErrForm
		if n == 32 {
			want = api.OK
		}
		bad := strings.Repeat("s", n)
		checkCheck(t, "a sum", want, Plain{At: "a", Size: 9, Chunks: []string{bad}})
		checkCheck(t, "a sum behind others", want, Plain{At: "a", Size: 9, Chunks: []string{sum('a'), sum('b'), bad}})
	}
	checkCheck(t, "64 bytes in two", api.ErrForm, Plain{At: "a", Size: 9, Chunks: []string{strings.Repeat("s", 31), strings.Repeat("s", 33)}})
}

// P12.2: the order of paths, and their folders.
func TestCheckTree(t *testing.T) {
	dir := func(s string) Node { return Folder{At: s} }
	file := func(s string) Node { return Plain{At: s} }
	link := func(s string) Node { return Sym{At: s, Target: "t"} }
	for _, c := range []struct {
		want api.Errno
		l    []Node
	}{
		{api.OK, nil},
		{api.OK, []Node{}},
		{api.OK, tree()},
		{api.OK, []Node{dir("a"), dir("a/b"), file("a/b/c"), file("a-b")}},
		{api.OK, []Node{dir("a"), file("a/z"), dir("a ")}},
		{api.ErrForm, []Node{dir("a"), dir("a-b"), file("a/b")}}, // by bytes they would rise
		{api.ErrForm, []Node{dir("b"), dir("a")}},
		{api.ErrForm, []Node{dir("a"), dir("a")}},
		{api.ErrForm, []Node{dir("a"), file("a")}},
		{api.ErrForm, []Node{dir("a"), file("a/b"), link("a/b")}},
		{api.ErrForm, []Node{dir("a"), file("a/b"), dir("a")}},
		{api.ErrAbsent, []Node{file("a/b"), dir("a")}},
		{api.ErrAbsent, []Node{dir("a/b")}},
		{api.ErrAbsent, []Node{link("a/b")}},
		{api.ErrAbsent, []Node{file("a"), file("a/b")}},
		{api.ErrAbsent, []Node{link("a"), file("a/b")}},
		{api.ErrAbsent, []Node{dir("a"), file("a/b/c")}},
		{api.ErrAbsent, []Node{dir("a"), file("a/b"), file("a/b/c")}},
		{api.ErrAbsent, []Node{dir("a"), file("aa/b")}},
		{api.ErrAbsent, []Node{dir("A"), file("a/b")}},
		{api.ErrAbsent, []Node{dir("a"), dir("a/b"), dir("b"), dir("b/b/b")}},
	} {
		checkBoth(t, fmt.Sprint(c.l), c.want, c.l...)
	}
}

// P12.2: what is no path.
func TestCheckPath(t *testing.T) {
	for _, s := range []string{"", "/", "/a", "a/", "a//b", ".", "..", "a/..", "\xff", "a\x00", "\x7f", "a/b/c/d/e/f/g/h/i", strings.Repeat("a", 61), strings.Repeat(strings.Repeat("a", 50)+"/", 3) + strings.Repeat("b", 48)} {
		checkBoth(t, "a path", api.ErrPath, Folder{At: s})
		checkBoth(t, "a path", api.ErrPath, Plain{At: s})
		checkBoth(t, "a path", api.ErrPath, Sym{At: s, Target: "b"})
		checkBoth(t, "a path behind another", api.ErrPath, Folder{At: "a"}, Folder{At: s})
	}
	deepest := Folder{At: "a/b/c/d/e/f/g/h"}
	var l []Node
	for n := 1; n <= len(deepest.At); n += 2 {
		l = append(l, Folder{At: deepest.At[:n]})
	}
	checkBoth(t, "eight folders", api.OK, l...)
}

// P12.2: how many nodes.
func TestCheckMany(t *testing.T) {
	var l []Node
	for i := range 202 {
		l = append(l, Plain{At: fmt.Sprintf("%03d", i)})
	}
	checkBoth(t, "199", api.OK, l[:199]...)
	checkBoth(t, "200", api.OK, l[:200]...)
	checkBoth(t, "201", api.ErrBig, l[:201]...)
	checkBoth(t, "202", api.ErrBig, l...)
	checkCheck(t, "201 that are none", api.ErrBig, make([]Node, 201)...)
	checkCheck(t, "200 that are none", api.ErrKind, make([]Node, 200)...)
}

// P12.2, K2: of several faults the first one, node by node, in the document's order.
func TestCheckFirst(t *testing.T) {
	for _, n := range others() {
		checkCheck(t, fmt.Sprintf("a %T", n), api.ErrKind, n)
		checkCheck(t, fmt.Sprintf("a %T behind a folder", n), api.ErrKind, Folder{At: "b"}, n)
		checkCheck(t, fmt.Sprintf("a %T ahead of what is no path", n), api.ErrKind, n, Folder{})
		checkCheck(t, fmt.Sprintf("a %T behind what is no path", n), api.ErrPath, Folder{}, n)
		checkCheck(t, fmt.Sprintf("a %T behind what isn't fit", n), api.ErrForm, Folder{At: "a", Mode: -1}, n)
		checkCheck(t, fmt.Sprintf("a %T behind what is in no folder", n), api.ErrAbsent, Folder{At: "a/b"}, n)
	}
	checkBoth(t, "no path and a mode", api.ErrPath, Folder{At: "a//b", Mode: 512})
	checkBoth(t, "no path and a target", api.ErrPath, Sym{At: ""})
	checkBoth(t, "a mode, in no folder", api.ErrForm, Folder{At: "a/b", Mode: 512})
	checkBoth(t, "a mode, falling", api.ErrForm, Folder{At: "b"}, Folder{At: "a", Mode: 512})
	checkBoth(t, "falling, in no folder", api.ErrForm, Folder{At: "b"}, Folder{At: "a/b"})
	checkBoth(t, "in no folder, then no path", api.ErrAbsent, Folder{At: "a/b"}, Folder{At: ""})
	checkBoth(t, "falling, then no path", api.ErrForm, Folder{At: "b"}, Folder{At: "a"}, Folder{At: ""})
	checkBoth(t, "no path, then falling", api.ErrPath, Folder{At: "b"}, Folder{At: ""}, Folder{At: "a"})
	checkBoth(t, "in no folder, then falling", api.ErrAbsent, Folder{At: "b/b"}, Folder{At: "a"})
}

// P12.2, P6: what was written is read again; the bytes are the document's.
func TestEncodeDecode(t *testing.T) {
	check := func(l []Node) {
		t.Helper()
		s, e := Encode(l)
		if e != api.OK || s != byHand(l...) {
			t.Fatalf("Encode of %v: %x, %d", l, s, e)
		}
		back, e := Decode(s)
		if e != api.OK || !like(back, l) {
			t.Fatalf("Decode: %v, %d, not %v", back, e, l)
		}
	}
	check(nil)
	check(tree())
	check([]Node{Plain{At: "a", Size: 32768, Chunks: sums(32768)}})
	r := dice()
	most := 0
	for range 2000 {
		l := randomTree(r)
		check(l)
		most = max(most, len(l))
	}
	if most < 15 {
		t.Errorf("at most %d nodes: too few to tell", most)
	}
}

// P12.2: each row of bytes is that of one list alone: what is read is written again as it stood.
func TestDecodeSpoilt(t *testing.T) {
	r := dice()
	good := 0
	for range 60000 {
		s := []byte(byHand(randomTree(r)...))
		for range 1 + r.IntN(2) {
			switch i := r.IntN(len(s)); r.IntN(4) {
			case 0:
				s[i] = byte(r.IntN(256))
			case 1:
				s[i] ^= 1 << r.IntN(8)
			case 2:
				s = slices.Insert(s, i, byte(r.IntN(4)))
			case 3:
				s = append(s[:i], s[min(i+1, len(s)-1):]...)
			}
			if len(s) == 0 {
				s = []byte{0}
			}
		}
		l, e := Decode(string(s))
		if e != api.OK {
			if len(l) != 0 {
				t.Fatalf("Decode(%x): %d, with %d nodes", s, e, len(l))
			}
			continue
		}
		good++
		if again, e := Encode(l); e != api.OK || again != string(s) {
			t.Fatalf("Decode(%x): %v, which is %x, %d", s, l, again, e)
		}
	}
	if good < 1000 {
		t.Errorf("%d were read: too few to tell", good)
	}
}

// piece: some bytes, and what is answered where they end ahead of their end: within a number ErrText, else ErrEnd.
type piece struct {
	bytes string
	short api.Errno
}

// pieces: those of the first nodes of tree, one by one.
func pieces() []piece {
	number := func(x uint64) piece { return piece{num(x), api.ErrText} }
	text := func(s string) piece { return piece{s, api.ErrEnd} }
	return []piece{
		number(3),
		number(1), number(1), text("a"), number(511), number(api.MaxTime),
		number(2), number(3), text("a/b"), number(420), number(1), number(300), number(3), text(sum('x') + sum(0) + sum('x')),
		number(3), number(3), text("a/c"), number(1), number(128), number(200), text(strings.Repeat("t", 200)),
	}
}

// P12.2: ends at each byte, and bytes that are left.
func TestDecodeShort(t *testing.T) {
	ahead := ""
	for _, p := range pieces() {
		for n := range len(p.bytes) {
			checkDecode(t, "ended", ahead+p.bytes[:n], p.short)
		}
		ahead += p.bytes
	}
	checkDecode(t, "whole", ahead, api.OK)
	checkDecode(t, "left", ahead+"\x00", api.ErrText)
	checkDecode(t, "left", ahead+ahead, api.ErrText)
	checkDecode(t, "nothing", "", api.ErrText)
	checkDecode(t, "left behind none", "\x00\x00", api.ErrText)
	checkDecode(t, "left ahead of the error of Check", byHand(Folder{At: "//"})+"\x00", api.ErrText)
}

// P12.2: at each number's place a number that is none, or is too great.
func TestDecodeNumbers(t *testing.T) {
	l := pieces()
	for i, p := range l {
		if p.short != api.ErrText {
			continue
		}
		ahead, behind := "", ""
		for _, q := range l[:i] {
			ahead += q.bytes
		}
		for _, q := range l[i+1:] {
			behind += q.bytes
		}
		longer := p.bytes[:len(p.bytes)-1] + string([]byte{p.bytes[len(p.bytes)-1] | 0x80, 0})
		for _, bad := range []string{longer, "\x80\x00", num(1<<40 + 1), num(math.MaxInt64), num(math.MaxUint64), strings.Repeat("\xff", 9) + "\x02", strings.Repeat("\x80", 20)} {
			checkDecode(t, fmt.Sprint("number ", i), ahead+bad+behind, api.ErrText)
			checkDecode(t, fmt.Sprint("number ", i, " at the end"), ahead+bad, api.ErrText)
		}
	}
}

// P12.2: 2^40 itself is a number; what follows says what is wrong.
func TestDecodeGreat(t *testing.T) {
	great := num(1 << 40)
	for _, c := range []struct {
		what, s string
		want    api.Errno
	}{
		{"count", great, api.ErrBig},
		{"kind", "\x01" + great + "\x01a\x00\x00", api.ErrText},
		{"path", "\x01\x01" + great + "a", api.ErrEnd},
		{"mode", "\x01\x01\x01a" + great + "\x00", api.ErrForm},
		{"time", "\x01\x01\x01a\x00" + great, api.ErrForm},
		{"size", "\x01\x02\x01a\x00\x00" + great + "\x01" + sum('s'), api.ErrForm},
		{"chunks", "\x01\x02\x01a\x00\x00\x01" + great + sum('s'), api.ErrEnd},
		{"target", "\x01\x03\x01a\x00\x00" + great + "t", api.ErrEnd},
	} {
		checkDecode(t, c.what, c.s, c.want)
	}
}

// P12.2: the count is refused as soon as it has been read.
func TestDecodeCount(t *testing.T) {
	for _, x := range []uint64{201, 255, 256, 1 << 20, 1<<40 - 1, 1 << 40} {
		for _, behind := range []string{"", "\x00", "\x80", "\x01\x01a\x00\x00"} {
			checkDecode(t, "count", num(x)+behind, api.ErrBig)
		}
	}
	checkDecode(t, "200, but none", num(200), api.ErrText)
}

// P12.2: a kind that is none of the three is refused when mode and time have been read.
func TestDecodeKind(t *testing.T) {
	for _, kind := range []string{"\x00", "\x04", "\x05", num(200), num(1<<32 + 1), num(1 << 40)} {
		checkDecode(t, "kind", "\x01"+kind+"\x01a\x00\x00", api.ErrText)
		checkDecode(t, "kind, nothing behind", "\x01"+kind, api.ErrText)
		checkDecode(t, "kind, path wanting", "\x01"+kind+"\x02a", api.ErrEnd)
		checkDecode(t, "kind, then as of a file", "\x01"+kind+"\x01a\x00\x00\x00\x00", api.ErrText)
		checkDecode(t, "kind, ahead of what is wanting", "\x02"+kind+"\x01a\x00\x00\x01\x05b", api.ErrText)
		checkDecode(t, "kind, behind what is wanting", "\x02\x01\x7fb"+kind, api.ErrEnd)
	}
	checkDecode(t, "no path, then a kind", "\x02\x01\x00\x00\x00\x09\x01b\x00\x00", api.ErrText)
	checkDecode(t, "no path, then an end", "\x02\x01\x00\x00\x00\x01\x05b", api.ErrEnd)
}

// P12.2: a file's sums are cut at 32 bytes each, and a count of them stands for their bytes.
func TestDecodeSums(t *testing.T) {
	head := "\x01\x02\x01a\x00\x00\x02"
	l, e := Decode(head + "\x02" + sum('x') + sum('y'))
	if e != api.OK || !like(l, []Node{Plain{At: "a", Size: 2, Chunks: []string{sum('x'), sum('y')}}}) {
		t.Errorf("two: %v, %d", l, e)
	}
	checkDecode(t, "one byte too few", head+"\x02"+sum('x')+sum('y')[1:], api.ErrEnd)
	checkDecode(t, "one too few", head+"\x02"+sum('x'), api.ErrEnd)
	checkDecode(t, "one byte too many", head+"\x02"+sum('x')+sum('y')+"z", api.ErrText)
	checkDecode(t, "more than the size", head+"\x03"+sum('x')+sum('y')+sum('z'), api.ErrForm)
	checkDecode(t, "none, but a size", head+"\x00", api.ErrForm)
}

// P12.3: each once, as they first stand; of any list, fit or not.
func TestChunks(t *testing.T) {
	for _, c := range []struct {
		l    []Node
		want []string
	}{
		{nil, nil},
		{[]Node{}, nil},
		{others(), nil},
		{[]Node{Folder{At: "a"}, Sym{At: "b", Target: sum('a')}, Plain{At: "c"}}, nil},
		{tree(), []string{sum('x'), sum(0), sum(0xff)}},
		{append(tree(), tree()...), []string{sum('x'), sum(0), sum(0xff)}},
		{[]Node{Plain{Chunks: []string{"b", "a"}}, nil, Plain{Chunks: []string{"a", "c", "b", "c"}}}, []string{"b", "a", "c"}},
		{[]Node{Plain{Chunks: []string{"", "\x00", "", "\x00\x00"}}}, []string{"", "\x00", "\x00\x00"}},
		{[]Node{&Plain{Chunks: []string{"p"}}, wrappedPlain{Plain{Chunks: []string{"w"}}}, Plain{Chunks: []string{"a"}}}, []string{"a"}},
		{make([]Node, 1000), nil},
	} {
		if got := Chunks(c.l); !slices.Equal(got, c.want) {
			t.Errorf("%v: %q", c.l, got)
		}
	}
	many := sums(5000)
	if got := Chunks([]Node{Plain{Chunks: many}, Plain{Chunks: many[100:]}}); !slices.Equal(got, many) {
		t.Errorf("of many: %d", len(got))
	}
}

// P12.4: lists that are handed in, and the room behind them, stay as they were.
func TestUnchanged(t *testing.T) {
	room := append(tree(), nil, stray{}, &Folder{At: "z"})
	chunks := append(sums(3), "behind", "it")
	room[1] = Plain{At: "a/b", Size: 3, Chunks: chunks[:3]}
	l, kept, keptChunks := room[:7], deep(room), slices.Clone(chunks)
	for range 2 {
		Check(l)
		Encode(l)
		Chunks(l)
		p, _ := AsPlain(l[1])
		q := MustPlain(l[1])
		_, _ = append(p.Chunks, "new"), append(q.Chunks, "new")
	}
	if !like(room, kept) || !slices.Equal(chunks, keptChunks) {
		t.Errorf("%v, not %v", room, kept)
	}
}

// P12.4: answers share nothing with what was handed in, nor with other answers.
func TestNewMemory(t *testing.T) {
	l := tree()
	kept := deep(l)
	own := l[1].(Plain).Chunks
	p, _ := AsPlain(l[1])
	q := MustPlain(l[1])
	all, other := Chunks(l), Chunks(l)
	s, _ := Encode(l)
	one, _ := Decode(s)
	two, _ := Decode(s)
	for _, list := range [][]string{p.Chunks, q.Chunks, all, one[1].(Plain).Chunks} {
		for i := range list {
			list[i] = "spoilt"
		}
	}
	one[0] = nil
	if !like(l, kept) || !like(two, kept) || !slices.Equal(other, []string{sum('x'), sum(0), sum(0xff)}) {
		t.Error("an answer shares its memory")
	}
	p, _ = AsPlain(l[1])
	q = MustPlain(l[1])
	own[0] = "spoilt"
	if p.Chunks[0] != sum('x') || q.Chunks[0] != sum('x') || other[0] != sum('x') {
		t.Error("an answer follows what was handed in")
	}
}

// P12.4: the lists of two files of one answer share nothing either.
func TestApart(t *testing.T) {
	s := byHand(Plain{At: "a", Size: 1, Chunks: sums(1)}, Plain{At: "b", Size: 2, Chunks: sums(2)})
	l, e := Decode(s)
	if e != api.OK {
		t.Fatal(e)
	}
	a, b := l[0].(Plain).Chunks, l[1].(Plain).Chunks
	_ = append(a, "x", "y", "z")
	a[0] = "spoilt"
	if !slices.Equal(b, sums(2)) {
		t.Errorf("%q", b)
	}
}
