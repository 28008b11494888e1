package zipfmt

import (
	"archive/zip"
	"encoding/binary"
	"hash/crc32"
	"io"
	"math"
	"math/rand/v2"
	"slices"
	"strconv"
	"strings"
	"testing"

	"cellarer/api"
	"cellarer/deflate"
)

// dice: the same numbers in every run.
func dice() *rand.Rand {
	return rand.New(rand.NewPCG(13, 14))
}

// randomText: n bytes, each one of the first few.
func randomText(r *rand.Rand, n, few int) string {
	out := make([]byte, n)
	for i := range out {
		out[i] = byte(r.IntN(few))
	}
	return string(out)
}

// two, four: a number in so many bytes, by the library.
func two(x int) string {
	return string(binary.LittleEndian.AppendUint16(nil, uint16(x)))
}

func four(x int) string {
	return string(binary.LittleEndian.AppendUint32(nil, uint32(x)))
}

func noughts(n int) string {
	return strings.Repeat("\x00", n)
}

// factsByHand, localByHand, indexByHand: as the document's words go.
func factsByHand(h Head) string {
	return two(20) + two(0) + two(h.Method) + four(0) + four(int(h.Crc)) + four(h.Packed) + four(h.Size) + two(len(h.Name)) + two(0)
}

func localByHand(h Head) string {
	return "\x50\x4b\x03\x04" + factsByHand(h) + h.Name
}

func indexByHand(l []Head, at int) string {
	var out strings.Builder
	for _, h := range l {
		out.WriteString("\x50\x4b\x01\x02" + two(20) + factsByHand(h) + noughts(10) + four(h.At) + h.Name)
	}
	return out.String() + "\x50\x4b\x05\x06" + noughts(4) + two(len(l)) + two(len(l)) + four(out.Len()) + four(at) + noughts(2)
}

// storedHead: that of a file that is stored at a place.
func storedHead(name, data string, at int) Head {
	return Head{Name: name, Crc: crc32.ChecksumIEEE([]byte(data)), Packed: len(data), Size: len(data), At: at}
}

// written: what Write answers, which must be no error.
func written(t *testing.T, files []File, level int) string {
	t.Helper()
	s, e := Write(files, level)
	if e != api.OK {
		t.Fatalf("Write: %d", e)
	}
	return s
}

// with: a text with some of its bytes replaced from a place on.
func with(s string, at int, other string) string {
	return s[:at] + other + s[at+len(other):]
}

func checkRead(t *testing.T, what, s string, want api.Errno) {
	t.Helper()
	if l, e := Read(s); e != want || e != api.OK && len(l) != 0 {
		t.Errorf("%s: Read: %d files, %d, not %d", what, len(l), e, want)
	}
}

func checkHeads(t *testing.T, what, s string, want api.Errno) {
	t.Helper()
	if l, e := Heads(s); e != want || e != api.OK && len(l) != 0 {
		t.Errorf("%s: Heads: %d heads, %d, not %d", what, len(l), e, want)
	}
}

func checkOpen(t *testing.T, what, s string, h Head, want api.Errno) {
	t.Helper()
	if data, e := Open(s, h); e != want || e != api.OK && data != "" {
		t.Errorf("%s: Open: %d bytes, %d, not %d", what, len(data), e, want)
	}
}

// P8.1: the bounds and the methods are the document's.
func TestBounds(t *testing.T) {
	if MaxFiles != 200 || MaxBytes != 262144 || MaxEach != 65536 || MaxName != 64 || Stored != 0 || Deflated != 8 {
		t.Errorf("%d files, %d bytes, %d each, names of %d, methods %d and %d", MaxFiles, MaxBytes, MaxEach, MaxName, Stored, Deflated)
	}
}

// P8.1: each byte by itself and within a name, and the bounds of how many there are.
func TestName(t *testing.T) {
	for b := range 256 {
		want := b >= 33 && b <= 126
		for _, s := range []string{string([]byte{byte(b)}), "a" + string([]byte{byte(b)}) + "a", strings.Repeat("z", 63) + string([]byte{byte(b)})} {
			if Name(s) != want {
				t.Errorf("%q: %t", s, !want)
			}
		}
	}
	for n := range 200 {
		if s := strings.Repeat("x", n); Name(s) != (n >= 1 && n <= 64) {
			t.Errorf("%d bytes: %t", n, Name(s))
		}
	}
	for _, s := range []string{"\u00e9", "a\u2028", "\U0001f600", "\xff\xfe", "a\xc3", "a b", "a\n"} {
		if Name(s) {
			t.Errorf("%q is a name", s)
		}
	}
}

// numbered: so many files, by rising names.
func numbered(n int, data string) []File {
	var out []File
	for i := range n {
		out = append(out, File{Name: "f" + strconv.Itoa(1000+i), Data: data})
	}
	return out
}

// P8.1: Check's errors, and which of them comes first.
func TestCheck(t *testing.T) {
	each := strings.Repeat("x", MaxEach)
	big := each + "x"
	for i, c := range []struct {
		files []File
		want  api.Errno
	}{
		{nil, api.OK},
		{[]File{}, api.OK},
		{[]File{{"a", ""}}, api.OK},
		{[]File{{"a", each}, {"aa", each}, {"b", each}}, api.OK},
		{[]File{{"~", ""}}, api.OK},
		{[]File{{"B", ""}, {"a", ""}}, api.OK},
		{[]File{{strings.Repeat("a", 64), ""}}, api.OK},
		{[]File{{strings.Repeat("a", 65), ""}}, api.ErrForm},
		{[]File{{"", ""}}, api.ErrForm},
		{[]File{{"a", ""}, {"", ""}}, api.ErrForm},
		{[]File{{"a b", ""}}, api.ErrForm},
		{[]File{{"a", ""}, {"a", ""}}, api.ErrForm},
		{[]File{{"b", ""}, {"a", ""}}, api.ErrForm},
		{[]File{{"ab", ""}, {"a", ""}}, api.ErrForm},
		{[]File{{"a", big}}, api.ErrBig},
		{[]File{{"", big}}, api.ErrBig},
		{[]File{{"", ""}, {"a", big}}, api.ErrForm},
		{[]File{{"a", big}, {"", ""}}, api.ErrBig},
		{[]File{{"b", ""}, {"a", big}}, api.ErrBig},
		{numbered(200, ""), api.OK},
		{numbered(201, ""), api.ErrBig},
		{append([]File{{"", ""}}, numbered(200, "")...), api.ErrBig},
		{append([]File{{"", ""}}, numbered(199, "")...), api.ErrForm},
	} {
		if e := Check(c.files); e != c.want {
			t.Errorf("number %d: Check: %d, not %d", i, e, c.want)
		}
		if c.want == api.OK {
			continue
		}
		if s, e := Write(c.files, 1); s != "" || e != c.want {
			t.Errorf("number %d: Write: %d bytes, %d, not %d", i, len(s), e, c.want)
		}
	}
}

// P8.1: an index by hand; numbers that don't fit are cut.
func TestIndex(t *testing.T) {
	long := Head{Name: strings.Repeat("n", 65537), Method: 65536 + 8, Crc: math.MaxUint32, Packed: 1<<32 + 5, Size: -1, At: math.MinInt + 7}
	for i, c := range []struct {
		l  []Head
		at int
	}{
		{nil, 0},
		{[]Head{}, 12345678},
		{nil, -1},
		{nil, 1<<32 + 3},
		{nil, math.MaxInt},
		{[]Head{{}}, 0},
		{[]Head{{"a", 8, 0x01020304, 0x05060708, 0x090a0b0c, 0x0d0e0f10}}, 0x11121314},
		{[]Head{{"b", 1, 2, 3, 4, 5}, {"a\x00", -1, 0, -2, math.MaxInt, math.MinInt}}, 70},
		{[]Head{long, long, {}}, 1},
		{make([]Head, 65537), 9},
	} {
		if s := Index(c.l, c.at); s != indexByHand(c.l, c.at) {
			t.Errorf("number %d: %d bytes, not those by hand", i, len(s))
		}
	}
}

// P8.1: archives whose every byte is told by hand: nothing, and files that are stored.
func TestWrite(t *testing.T) {
	if s := written(t, nil, 0); s != "PK\x05\x06"+noughts(18) {
		t.Errorf("nothing: %x", s)
	}
	if s := written(t, []File{}, 9); s != "PK\x05\x06"+noughts(18) {
		t.Errorf("nothing: %x", s)
	}
	first := storedHead("a", "hi", 0)
	one := localByHand(first) + "hi"
	if s := written(t, []File{{"a", "hi"}}, 6); s != one+indexByHand([]Head{first}, 33) || len(s) != 102 {
		t.Errorf("hi: %x", s)
	}
	second := storedHead("bb", "", 33)
	if s := written(t, []File{{"a", "hi"}, {"bb", ""}}, 9); s != one+localByHand(second)+indexByHand([]Head{first, second}, 65) {
		t.Errorf("two: %x", s)
	}
}

// P8.1: a file is deflated, if that is shorter, else stored, at every level.
func TestWriteDeflates(t *testing.T) {
	r := dice()
	texts := []string{"", "a", "aaaa", "abcabcabcabc", strings.Repeat("x", MaxEach), randomText(r, 100, 256), randomText(r, 2000, 3), randomText(r, MaxEach, 256)}
	for n := range 30 {
		texts = append(texts, strings.Repeat("e", n))
	}
	for level := range 10 {
		for _, text := range texts {
			h := storedHead("name", text, 0)
			body := text
			if d, _ := deflate.Deflate(text, level); len(d) < len(text) {
				h.Method, h.Packed, body = 8, len(d), d
			}
			want := localByHand(h) + body
			want += indexByHand([]Head{h}, len(want))
			if s := written(t, []File{{"name", text}}, level); s != want {
				t.Errorf("level %d, %d bytes: not the archive by hand (method %d)", level, len(text), h.Method)
			}
		}
	}
}

// P8.1: the errors of Write, the level's first.
func TestWriteErrors(t *testing.T) {
	bad := []File{{"", ""}}
	for _, level := range []int{-1, 10, math.MinInt, math.MaxInt} {
		for _, files := range [][]File{nil, bad, {{"a", strings.Repeat("x", MaxEach+1)}}} {
			if s, e := Write(files, level); s != "" || e != api.ErrArg {
				t.Errorf("level %d: %d bytes, %d", level, len(s), e)
			}
		}
	}
	for level := range 10 {
		if s, e := Write(bad, level); s != "" || e != api.ErrForm {
			t.Errorf("level %d: %d bytes, %d", level, len(s), e)
		}
	}
}

// P8.1: an archive of just MaxBytes, and one of a byte more; also if its files alone are too much.
func TestWriteBig(t *testing.T) {
	noise := randomText(dice(), MaxEach, 256)
	const others = 4*(30+46+2) + 22
	files := []File{{"a", noise}, {"b", noise}, {"c", noise}, {"d", noise[:MaxBytes-others-3*MaxEach]}}
	s := written(t, files, 9)
	if len(s) != MaxBytes {
		t.Fatalf("%d bytes", len(s))
	}
	if l, e := Read(s); e != api.OK || !slices.Equal(l, files) {
		t.Errorf("Read of the greatest: %d", e)
	}
	checkRead(t, "a byte more", s+"x", api.ErrBig)
	checkHeads(t, "a byte more", s+"x", api.ErrBig)
	checkHeads(t, "noughts", noughts(MaxBytes+1), api.ErrBig)
	checkHeads(t, "noughts", noughts(MaxBytes), api.ErrText)
	files[3].Data = noise[:MaxBytes-others-3*MaxEach+1]
	if s, e := Write(files, 9); s != "" || e != api.ErrBig {
		t.Errorf("a byte more: %d bytes, %d", len(s), e)
	}
	files[3].Data = noise
	if s, e := Write(files, 0); s != "" || e != api.ErrBig {
		t.Errorf("four of the greatest: %d bytes, %d", len(s), e)
	}
	if s, e := Write(numbered(200, noise), 1); s != "" || e != api.ErrBig {
		t.Errorf("two hundred of the greatest: %d bytes, %d", len(s), e)
	}
}

// randomFiles: some files, by rising names.
func randomFiles(r *rand.Rand) []File {
	data := map[string]string{}
	for range r.IntN(12) {
		name := make([]byte, 1+r.IntN(64))
		for i := range name {
			name[i] = byte(33 + r.IntN(94))
		}
		// The library takes it for a folder, which has no bytes.
		if name[len(name)-1] == '/' {
			name[len(name)-1] = '.'
		}
		data[string(name)] = randomText(r, r.IntN(3000), 1+r.IntN(256))
	}
	var out []File
	for name, text := range data {
		out = append(out, File{name, text})
	}
	slices.SortFunc(out, func(a, b File) int { return strings.Compare(a.Name, b.Name) })
	return out
}

// libraryFiles: the files of an archive, as the library reads them.
func libraryFiles(t *testing.T, s string) []File {
	t.Helper()
	z, err := zip.NewReader(strings.NewReader(s), int64(len(s)))
	if err != nil {
		t.Fatal(err)
	}
	var out []File
	for _, f := range z.File {
		x, err := f.Open()
		if err != nil {
			t.Fatal(err)
		}
		data, err := io.ReadAll(x)
		if err != nil {
			t.Fatal(err)
		}
		out = append(out, File{f.Name, string(data)})
	}
	return out
}

// P8.3, P6: what was written is read again, here and by the library.
func TestReadOfWrite(t *testing.T) {
	r := dice()
	lists := [][]File{
		nil, {{"a", ""}}, {{"a", "hi"}}, numbered(200, ""), numbered(200, "some text, some text, some text"),
		numbered(200, strings.Repeat("z", MaxEach)),
		{{"!", randomText(r, MaxEach, 256)}, {"~", randomText(r, MaxEach, 2)}},
	}
	for range 60 {
		lists = append(lists, randomFiles(r))
	}
	for i, files := range lists {
		level := i % 10
		s := written(t, files, level)
		if l, e := Read(s); e != api.OK || !slices.Equal(l, files) {
			t.Errorf("list %d: %d files, %d", i, len(l), e)
		}
		if l := libraryFiles(t, s); !slices.Equal(l, files) {
			t.Errorf("list %d: the library: %d files", i, len(l))
		}
		checkHeadsOf(t, s, files)
	}
}

// checkHeadsOf: the heads of an archive are those of its files, each of which is opened by its own.
func checkHeadsOf(t *testing.T, s string, files []File) {
	t.Helper()
	l, e := Heads(s)
	if e != api.OK || len(l) != len(files) {
		t.Fatalf("%d heads, %d", len(l), e)
	}
	at := 0
	for i, h := range l {
		want := storedHead(files[i].Name, files[i].Data, at)
		want.Method, want.Packed = h.Method, h.Packed
		if h != want {
			t.Errorf("head %v, not %v", h, want)
		}
		if data, e := Open(s, h); e != api.OK || data != files[i].Data {
			t.Errorf("%s: %d bytes, %d", h.Name, len(data), e)
		}
		at += 30 + len(h.Name) + h.Packed
	}
}

// P8.2: the document's examples.
func TestExamples(t *testing.T) {
	s := written(t, []File{{"a", "hi"}}, 6)
	checkRead(t, "a byte of hi", with(s, 31, "H"), api.ErrSum)
	checkRead(t, "another byte of hi", with(s, 32, "I"), api.ErrSum)
	checkRead(t, "method 9 in both", with(with(s, 8, "\x09"), 33+10, "\x09"), api.ErrKind)
	checkRead(t, "method 9 in one", with(s, 8, "\x09"), api.ErrText)
	checkRead(t, "method 9 in the other", with(s, 33+10, "\x09"), api.ErrText)
	checkHeads(t, "21 bytes", s[len(s)-21:], api.ErrText)
	checkHeads(t, "21 noughts", noughts(21), api.ErrText)
	checkHeads(t, "no bytes", "", api.ErrText)
	checkHeads(t, "22 noughts", noughts(22), api.ErrText)
}

// turned: the head that an index tells whose byte at this place is another one; false: that byte tells none.
func turned(h Head, at int, by byte) (Head, bool) {
	x := int(by)
	switch {
	case at >= 10 && at < 12:
		h.Method ^= x << (8 * (at - 10))
	case at >= 16 && at < 20:
		h.Crc ^= uint32(x) << (8 * (at - 16))
	case at >= 20 && at < 24:
		h.Packed ^= x << (8 * (at - 20))
	case at >= 24 && at < 28:
		h.Size ^= x << (8 * (at - 24))
	case at >= 42 && at < 46:
		h.At ^= x << (8 * (at - 42))
	case at >= 46 && at < 46+len(h.Name):
		b := []byte(h.Name)
		b[at-46] ^= by
		h.Name = string(b)
	default:
		return Head{}, false
	}
	return h, true
}

// P8.2: an index with any byte turned in any way: another head, or none.
func TestHeadsTurned(t *testing.T) {
	good := storedHead("name", "some bytes", 0)
	front := localByHand(good) + "some bytes"
	s := front + indexByHand([]Head{good}, len(front))
	for at := range len(s) - len(front) {
		for by := 1; by < 256; by++ {
			b := []byte(s)
			b[len(front)+at] ^= byte(by)
			l, e := Heads(string(b))
			want, ok := turned(good, at, byte(by))
			switch {
			case !ok:
				if e != api.ErrText || len(l) != 0 {
					t.Errorf("byte %d by %d: %v, %d", at, by, l, e)
				}
			case !Name(want.Name):
				if e != api.ErrForm || len(l) != 0 {
					t.Errorf("byte %d by %d: %v, %d", at, by, l, e)
				}
			default:
				if e != api.OK || len(l) != 1 || l[0] != want {
					t.Errorf("byte %d by %d: %v, %d, not %v", at, by, l, e, want)
				}
			}
		}
	}
}

// P8.2, P8.3: an archive with any byte turned is never read as the files that it had not.
func TestReadTurned(t *testing.T) {
	files := []File{{"a", "hi"}, {"b", strings.Repeat("over and over ", 20)}, {"c", ""}}
	s := written(t, files, 9)
	for at := range len(s) {
		for _, by := range []byte{1, 2, 9, 0x40, 0x80, 0xff} {
			b := []byte(s)
			b[at] ^= by
			if l, e := Read(string(b)); e == api.OK && !slices.Equal(l, files) || e != api.OK && len(l) != 0 {
				t.Errorf("byte %d by %d: %v, %d", at, by, l, e)
			}
		}
	}
}

// P8.2: any part of an archive, and any bytes ahead of it or behind it, are none.
func TestReadParts(t *testing.T) {
	s := written(t, []File{{"a", "hi"}, {"b", strings.Repeat("x", 100)}}, 9)
	for n := range len(s) {
		checkHeads(t, "a beginning", s[:n], api.ErrText)
		checkRead(t, "a beginning", s[:n], api.ErrText)
		if n > 0 {
			checkRead(t, "an end", s[n:], api.ErrText)
		}
	}
	for _, more := range []string{"\x00", "x", s} {
		checkHeads(t, "more behind", s+more[:1], api.ErrText)
		checkHeads(t, "more ahead", more+s, api.ErrText)
		checkRead(t, "more ahead", more+s, api.ErrText)
	}
}

// indexed: bytes, and behind them the index of heads.
func indexed(front string, l ...Head) string {
	return front + indexByHand(l, len(front))
}

// P8.2: Heads asks nothing of what stands ahead of the index; of names it does, and of how many there are, in this order.
func TestHeads(t *testing.T) {
	a, b := Head{Name: "a", Method: 65535, Crc: math.MaxUint32, Packed: math.MaxUint32, Size: math.MaxUint32, At: math.MaxUint32}, Head{Name: "b"}
	if l, e := Heads(indexed("front", a, b)); e != api.OK || !slices.Equal(l, []Head{a, b}) {
		t.Errorf("%v, %d", l, e)
	}
	if l, e := Heads(indexed("")); e != api.OK || len(l) != 0 {
		t.Errorf("none: %v, %d", l, e)
	}
	if l, e := Heads(indexed("front")); e != api.OK || len(l) != 0 {
		t.Errorf("none, behind some bytes: %v, %d", l, e)
	}
	long := func(n int) Head { return Head{Name: strings.Repeat("c", n)} }
	checkHeads(t, "64 bytes", indexed("", long(64)), api.OK)
	checkHeads(t, "65 bytes", indexed("", long(65)), api.ErrForm)
	checkHeads(t, "65535 bytes", indexed("", a, long(65535)), api.ErrForm)
	checkHeads(t, "no bytes", indexed("", Head{}), api.ErrForm)
	checkHeads(t, "twice", indexed("", a, a), api.ErrForm)
	checkHeads(t, "falling", indexed("", b, a), api.ErrForm)
	checkHeads(t, "a blank", indexed("", a, Head{Name: "b c"}), api.ErrForm)
	var l []Head
	for _, f := range numbered(201, "") {
		l = append(l, Head{Name: f.Name})
	}
	checkHeads(t, "200", indexed("", l[:200]...), api.OK)
	checkHeads(t, "201", indexed("", l...), api.ErrBig)
	checkRead(t, "201", indexed("", l...), api.ErrBig)
	checkHeads(t, "201, falling", indexed("", append(slices.Clone(l), a)...), api.ErrForm)
	s := indexed("", append(slices.Clone(l), a)...)
	checkHeads(t, "201, falling, no index", with(s, 0, "X"), api.ErrText)
	checkHeads(t, "more than there is room for", s+noughts(MaxBytes), api.ErrBig)
}

// P8.2: the end's numbers: counts, the size and the place, must be just right.
func TestHeadsEnd(t *testing.T) {
	h := Head{Name: "a"}
	s := indexed("front", h)
	end := len(s) - 22
	for _, c := range []struct {
		what string
		s    string
	}{
		{"counts", with(s, end+8, two(2)+two(2))},
		{"counts of none", with(s, end+8, two(0)+two(0))},
		{"one count", with(s, end+8, two(0))},
		{"other count", with(s, end+10, two(0))},
		{"size", with(s, end+12, four(46))},
		{"place behind", with(s, end+16, four(6))},
		{"place ahead", with(s, end+16, four(4))},
		{"place of the end", with(s, end+16, four(end))},
		{"place within the end", with(s, end+16, four(end+1))},
		{"place at the end", with(s, end+16, four(len(s)))},
		{"place beyond", with(s, end+16, four(math.MaxUint32))},
		{"a name that is too long", with(s, 5+28, two(2))},
		{"a name that is far too long", with(s, 5+28, two(65535))},
		{"a name that is too short", with(s, 5+28, two(0))},
		{"remarks", with(s, len(s)-2, two(1)) + "x"},
	} {
		checkHeads(t, c.what, c.s, api.ErrText)
	}
}

// P8.2: a stored file, with each of Open's errors.
func TestOpenStored(t *testing.T) {
	const data = "some bytes"
	h := storedHead("name", data, 3)
	s := "abc" + localByHand(h) + data + "xyz"
	if got, e := Open(s, h); got != data || e != api.OK {
		t.Errorf("%q, %d", got, e)
	}
	change := func(what string, want api.Errno, f func(h *Head)) {
		t.Helper()
		other := h
		f(&other)
		checkOpen(t, what, s, other, want)
	}
	change("At below 0", api.ErrArg, func(h *Head) { h.At = -1 })
	change("At least", api.ErrArg, func(h *Head) { h.At = math.MinInt })
	change("At beyond", api.ErrArg, func(h *Head) { h.At = len(s) + 1 })
	change("At greatest", api.ErrArg, func(h *Head) { h.At = math.MaxInt })
	change("At the end", api.ErrText, func(h *Head) { h.At = len(s) })
	change("At a byte ahead", api.ErrText, func(h *Head) { h.At-- })
	change("At a byte behind", api.ErrText, func(h *Head) { h.At++ })
	change("Packed below 0", api.ErrArg, func(h *Head) { h.Packed = -1 })
	change("Packed below 0, but as cut", api.ErrArg, func(h *Head) { h.Packed -= 1 << 32 })
	change("Size below 0, but as cut", api.ErrArg, func(h *Head) { h.Size -= 1 << 32 })
	change("Size below 0", api.ErrArg, func(h *Head) { h.Size = -1 })
	change("Packed beyond", api.ErrText, func(h *Head) { h.Packed += 1 << 32 })
	change("Packed greatest", api.ErrText, func(h *Head) { h.Packed = math.MaxInt })
	change("Size beyond", api.ErrBig, func(h *Head) { h.Size += 1 << 32 })
	change("Size beyond, another name", api.ErrText, func(h *Head) { h.Size += 1 << 32; h.Name = "nane" })
	change("Method beyond", api.ErrKind, func(h *Head) { h.Method = 1 << 16 })
	change("Method below 0", api.ErrKind, func(h *Head) { h.Method = math.MinInt })
	change("Method of the other kind", api.ErrText, func(h *Head) { h.Method = Deflated })
	change("another sum", api.ErrText, func(h *Head) { h.Crc++ })
	change("another size", api.ErrText, func(h *Head) { h.Size++ })
	change("another name", api.ErrText, func(h *Head) { h.Name = "nam" })
	change("no name", api.ErrText, func(h *Head) { h.Name = "" })
	change("a long name", api.ErrText, func(h *Head) { h.Name = strings.Repeat("n", 70000) })
}

// P8.2: heads that fit their local part, but not the bytes that follow, and which error comes first.
func TestOpenFitting(t *testing.T) {
	const data = "some bytes"
	good := storedHead("name", data, 0)
	for _, c := range []struct {
		what   string
		want   api.Errno
		behind string
		f      func(h *Head)
	}{
		{"as it is", api.OK, data, func(h *Head) {}},
		{"any name", api.OK, data, func(h *Head) { h.Name = "\x00 \xff" }},
		{"no name", api.OK, data, func(h *Head) { h.Name = "" }},
		{"a long name", api.OK, data, func(h *Head) { h.Name = strings.Repeat("n", 70000) }},
		{"too few bytes", api.ErrText, data[1:], func(h *Head) {}},
		{"no bytes", api.ErrText, "", func(h *Head) {}},
		{"too few bytes, Size", api.ErrText, data[1:], func(h *Head) { h.Size = MaxEach + 1 }},
		{"Size", api.ErrBig, data, func(h *Head) { h.Size = MaxEach + 1 }},
		{"Size, kind", api.ErrBig, data, func(h *Head) { h.Size = MaxEach + 1; h.Method = 9 }},
		{"Size, stream", api.ErrBig, data, func(h *Head) { h.Size = MaxEach + 1; h.Method = Deflated }},
		{"kind", api.ErrKind, data, func(h *Head) { h.Method = 9 }},
		{"kind, size", api.ErrKind, data, func(h *Head) { h.Method = 7; h.Size++ }},
		{"kind, sum", api.ErrKind, data, func(h *Head) { h.Method = 1; h.Crc++ }},
		{"greater size", api.ErrText, data, func(h *Head) { h.Size++ }},
		{"greatest size", api.ErrText, data, func(h *Head) { h.Size = MaxEach }},
		{"lesser size", api.ErrText, data, func(h *Head) { h.Size-- }},
		{"lesser size, sum", api.ErrText, data, func(h *Head) { h.Size--; h.Crc++ }},
		{"lesser packed", api.ErrText, data, func(h *Head) { h.Packed-- }},
		{"both lesser", api.ErrSum, data, func(h *Head) { h.Packed--; h.Size-- }},
		{"sum", api.ErrSum, data, func(h *Head) { h.Crc++ }},
		{"other bytes", api.ErrSum, "same bytes", func(h *Head) {}},
	} {
		h := good
		c.f(&h)
		checkOpen(t, c.what, localByHand(h)+c.behind, h, c.want)
	}
}

// P8.2: a deflated file: its stream has just so many bytes, and says just so many.
func TestOpenDeflated(t *testing.T) {
	data := strings.Repeat("over and over ", 20)
	stream, _ := deflate.Deflate(data, 9)
	good := storedHead("name", data, 0)
	good.Method, good.Packed = Deflated, len(stream)
	for _, c := range []struct {
		what   string
		want   api.Errno
		behind string
		f      func(h *Head)
	}{
		{"as it is", api.OK, stream, func(h *Head) {}},
		{"more behind", api.OK, stream + "x", func(h *Head) {}},
		{"a byte more", api.ErrText, stream + "x", func(h *Head) { h.Packed++ }},
		{"a byte fewer", api.ErrText, stream, func(h *Head) { h.Packed-- }},
		{"a byte is wanting", api.ErrText, stream[1:], func(h *Head) {}},
		{"no stream", api.ErrText, "\x07" + stream[1:], func(h *Head) {}},
		{"no byte of a stream", api.ErrText, "", func(h *Head) { h.Packed = 0 }},
		{"says more", api.ErrText, stream, func(h *Head) { h.Size-- }},
		{"says more than nothing", api.ErrText, stream, func(h *Head) { h.Size = 0 }},
		{"says less", api.ErrText, stream, func(h *Head) { h.Size++ }},
		{"says less, sum", api.ErrText, stream, func(h *Head) { h.Size++; h.Crc++ }},
		{"sum", api.ErrSum, stream, func(h *Head) { h.Crc-- }},
		{"Size", api.ErrBig, stream, func(h *Head) { h.Size = MaxEach + 1 }},
		{"nothing", api.OK, "\x03\x00", func(h *Head) { h.Packed, h.Size, h.Crc = 2, 0, 0 }},
		{"stored within", api.OK, "\x01\x01\x00\xfe\xffa", func(h *Head) { h.Packed, h.Size, h.Crc = 6, 1, 0xe8b7be43 }},
	} {
		h := good
		c.f(&h)
		checkOpen(t, c.what, localByHand(h)+c.behind, h, c.want)
	}
}

// P8.2: the greatest file, deflated and stored; one of a byte more.
func TestOpenGreatest(t *testing.T) {
	for _, data := range []string{strings.Repeat("x", MaxEach), randomText(dice(), MaxEach, 256)} {
		s := written(t, []File{{"a", data}}, 1)
		h, _ := Heads(s)
		if got, e := Open(s, h[0]); got != data || e != api.OK {
			t.Errorf("%d bytes, %d", len(got), e)
		}
	}
	data := strings.Repeat("x", MaxEach+1)
	h := storedHead("a", data, 0)
	checkOpen(t, "a byte more", localByHand(h)+data, h, api.ErrBig)
	h.Size--
	checkOpen(t, "a byte more than is said", localByHand(h)+data, h, api.ErrText)
}

// P8.2: local parts stand one behind the other, from 0 on up to the index, in the order of the index; file by file Open's error is the first.
func TestReadPlaces(t *testing.T) {
	part := func(name, data string, at int) (string, Head) {
		h := storedHead(name, data, at)
		return localByHand(h) + data, h
	}
	one, a := part("a", "hi", 0)
	next, b := part("b", "ho", len(one))
	checkRead(t, "as it is", indexed(one+next, a, b), api.OK)
	checkRead(t, "a byte ahead of the index", indexed(one+next+"x", a, b), api.ErrText)
	checkRead(t, "the second one isn't named", indexed(one+next, a), api.ErrText)
	late, c := part("b", "ho", len(one)+1)
	checkRead(t, "a byte between", indexed(one+"x"+late, a, c), api.ErrText)
	moved, d := part("a", "hi", 1)
	checkRead(t, "a byte at the front", indexed("x"+moved, d), api.ErrText)
	checkRead(t, "nothing, behind a byte", indexed("x"), api.ErrText)
	checkRead(t, "nothing", indexed(""), api.OK)

	first, y := part("b", "ho", 0)
	second, z := part("a", "hi", len(first))
	checkRead(t, "in another order", indexed(first+second, z, y), api.ErrText)

	wrong := d
	wrong.Crc++
	moved = localByHand(wrong) + "hi"
	checkRead(t, "a byte at the front, and a wrong sum", indexed("x"+moved, wrong), api.ErrSum)
	e := c
	e.Crc++
	checkRead(t, "a byte between, and a wrong sum", indexed(one+"x"+localByHand(e)+"ho", a, e), api.ErrSum)
	checkRead(t, "a wrong sum behind a wrong place", indexed("x"+localByHand(d)+"hi"+localByHand(e)+"ho", d, e), api.ErrText)
	far := a
	far.At = 1 << 30
	checkRead(t, "a place that isn't there", indexed(one, far), api.ErrArg)
	big := a
	big.Size = MaxEach + 1
	checkRead(t, "a size that is too great", indexed(localByHand(big)+"hi", big), api.ErrBig)
}

// P8.2: an archive of another program, with more than the strict form allows, isn't read.
func TestReadOfOthers(t *testing.T) {
	var out strings.Builder
	z := zip.NewWriter(&out)
	w, err := z.Create("a")
	if err != nil {
		t.Fatal(err)
	}
	if _, err := io.WriteString(w, "hi"); err != nil {
		t.Fatal(err)
	}
	if err := z.Close(); err != nil {
		t.Fatal(err)
	}
	checkHeads(t, "the library's", out.String(), api.ErrText)
	checkRead(t, "the library's", out.String(), api.ErrText)
}

// P1, K7: any bytes are answered.
func TestAnyBytes(t *testing.T) {
	r := dice()
	s := written(t, []File{{"a", "hi"}, {"b", strings.Repeat("x", 100)}}, 9)
	for range 20000 {
		b := []byte(s)
		for range 1 + r.IntN(4) {
			b[r.IntN(len(b))] = byte(r.IntN(256))
		}
		x := string(b)
		l, e := Heads(x)
		if e != api.OK && len(l) != 0 {
			t.Fatalf("%x: %v, %d", x, l, e)
		}
		for _, h := range l {
			if data, e := Open(x, h); e != api.OK && data != "" {
				t.Fatalf("%x: %v: %q, %d", x, h, data, e)
			}
		}
		if l, e := Read(x); e != api.OK && len(l) != 0 {
			t.Fatalf("%x: %v, %d", x, l, e)
		}
	}
}

// P8.4: what is handed in stays, with the room behind it; answers are their own; the same call has the same answer.
func TestMemory(t *testing.T) {
	files := append(make([]File, 0, 8), File{"a", "hi"}, File{"b", "ho"}, File{"spare", ""})
	kept := slices.Clone(files)
	s := written(t, files[:2], 6)
	Check(files[:2])
	if !slices.Equal(files, kept) {
		t.Errorf("the files were changed: %v", files)
	}
	l, _ := Heads(s)
	l = append(l, Head{Name: "spare"})
	heads := slices.Clone(l)
	Index(l[:2], 66)
	if !slices.Equal(l, heads) {
		t.Errorf("the heads were changed: %v", l)
	}
	other, _ := Heads(s)
	l[0] = Head{}
	if !slices.Equal(other, heads[:2]) {
		t.Errorf("two answers of Heads share memory")
	}
	one, _ := Read(s)
	again, _ := Read(s)
	one[0] = File{}
	if !slices.Equal(again, kept[:2]) {
		t.Errorf("two answers of Read share memory")
	}
	files[0] = File{}
	if same, _ := Write(kept[:2], 6); same != s {
		t.Errorf("another archive of the same files")
	}
}
