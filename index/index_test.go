package index

import (
	"crypto/sha256"
	"encoding/binary"
	"fmt"
	"maps"
	"math"
	"math/rand/v2"
	"slices"
	"strings"
	"testing"

	"cellarer/api"
	"cellarer/disk"
	"cellarer/packs"
	"cellarer/zipfmt"
)

// dice: the same numbers in every run.
func dice() *rand.Rand {
	return rand.New(rand.NewPCG(27, 17))
}

// sha: a name of bytes, by the library.
func sha(s string) string {
	return fmt.Sprintf("%x", sha256.Sum256([]byte(s)))
}

// digits: a name of 64 times the same digit.
func digits(c string) string {
	return strings.Repeat(c, 64)
}

// fresh: an empty disk.
func fresh(t *testing.T) *disk.Disk {
	t.Helper()
	d, e := disk.New(1 << 20)
	if e != api.OK {
		t.Fatalf("disk: %d", e)
	}
	return d
}

// ok: calls that are to be answered by OK.
func ok(t *testing.T, all ...api.Errno) {
	t.Helper()
	for i, e := range all {
		if e != api.OK {
			t.Fatalf("call %d: %d", i, e)
		}
	}
}

// lay: a pack's file with these bytes, whatever they are, under their name.
func lay(t *testing.T, d *disk.Disk, s string) string {
	t.Helper()
	name := "p" + sha(s)
	ok(t, packs.Publish(d, name, s))
	return name
}

// built: the bytes of a pack of these chunks.
func built(t *testing.T, chunks ...string) string {
	t.Helper()
	_, s, e := packs.Build(chunks, 6)
	if e != api.OK {
		t.Fatalf("Build: %d", e)
	}
	return s
}

// archive: an archive of any one file.
func archive(t *testing.T, name, data string) string {
	t.Helper()
	s, e := zipfmt.Write([]zipfmt.File{{Name: name, Data: data}}, 6)
	if e != api.OK {
		t.Fatalf("Write: %d", e)
	}
	return s
}

// headsIn: what the archive says of its files.
func headsIn(t *testing.T, s string) []zipfmt.Head {
	t.Helper()
	l, e := zipfmt.Heads(s)
	if e != api.OK {
		t.Fatalf("Heads: %d", e)
	}
	return l
}

// found: a name that must have a place.
func found(t *testing.T, x *Index, name string) Place {
	t.Helper()
	p, there := x.Find(name)
	if !there {
		t.Fatalf("%q has no place", name)
	}
	return p
}

// model is an index by its rules, told in another way: pairs that are gone through one by one.
type model struct {
	packs  []string
	places []Place
}

func (m *model) add(pack string, heads []zipfmt.Head) {
	if !slices.Contains(m.packs, pack) {
		m.packs = append(m.packs, pack)
	}
	for _, h := range heads {
		if !slices.ContainsFunc(m.places, func(p Place) bool { return p.Head.Name == h.Name }) {
			m.places = append(m.places, Place{pack, h})
		}
	}
}

// sorted: the places by rising names.
func (m *model) sorted() []Place {
	out := slices.Clone(m.places)
	slices.SortFunc(out, func(a, b Place) int { return strings.Compare(a.Head.Name, b.Head.Name) })
	return out
}

// bytes: the model by the chapter's row, with the library's numbers.
func (m *model) bytes() string {
	var out []byte
	number := func(n int) { out = binary.AppendUvarint(out, uint64(n)) }
	text := func(s string) {
		number(len(s))
		out = append(out, s...)
	}
	number(len(m.packs))
	for _, name := range m.packs {
		text(name)
	}
	number(len(m.places))
	for _, p := range m.sorted() {
		text(p.Head.Name)
		number(slices.Index(m.packs, p.Pack))
		for _, n := range []int{p.Head.Method, int(p.Head.Crc), p.Head.Packed, p.Head.Size, p.Head.At} {
			number(n)
		}
	}
	return string(out)
}

// same: an index says what the model does.
func same(t *testing.T, what string, x *Index, m *model) {
	t.Helper()
	if got := x.Packs(); !slices.Equal(got, m.packs) {
		t.Fatalf("%s: packs %q, not %q", what, got, m.packs)
	}
	var names []string
	for _, p := range m.sorted() {
		names = append(names, p.Head.Name)
		if got := found(t, x, p.Head.Name); got != p {
			t.Fatalf("%s: %v, not %v", what, got, p)
		}
	}
	if got := x.Names(); !slices.Equal(got, names) {
		t.Fatalf("%s: names %q, not %q", what, got, names)
	}
}

// absent: names that have no place.
func absent(t *testing.T, what string, x *Index, names ...string) {
	t.Helper()
	for _, name := range names {
		if p, there := x.Find(name); there || p != (Place{}) {
			t.Errorf("%s: %q: %v, %v", what, name, p, there)
		}
	}
}

// P17.2: the chapter's example.
func TestExample(t *testing.T) {
	a, b, c := zipfmt.Head{Name: "a"}, zipfmt.Head{Name: "b", At: 1}, zipfmt.Head{Name: "c", At: 2}
	elsewhere := b
	elsewhere.At = 7
	var x Index
	x.Add("p", []zipfmt.Head{a, b})
	x.Add("q", []zipfmt.Head{elsewhere, c})
	if found(t, &x, "a") != (Place{"p", a}) || found(t, &x, "b") != (Place{"p", b}) || found(t, &x, "c") != (Place{"q", c}) {
		t.Error("places")
	}
	if !slices.Equal(x.Packs(), []string{"p", "q"}) || !slices.Equal(x.Names(), []string{"a", "b", "c"}) {
		t.Errorf("%q, %q", x.Packs(), x.Names())
	}
}

// P17.2, P17.3: the zero Index has nothing, and so has one that was decoded of nothing.
func TestNone(t *testing.T) {
	x, e := Decode("\x00\x00")
	ok(t, e)
	for _, x := range []*Index{{}, x} {
		if len(x.Names()) != 0 || len(x.Packs()) != 0 || x.Encode() != "\x00\x00" {
			t.Errorf("%q, %q, %x", x.Names(), x.Packs(), x.Encode())
		}
		absent(t, "none", x, "", "a", sha("a"))
		x.Add("", nil)
		if len(x.Names()) != 0 || !slices.Equal(x.Packs(), []string{""}) || x.Encode() != "\x01\x00\x00" {
			t.Errorf("a pack without chunks: %q, %q, %x", x.Names(), x.Packs(), x.Encode())
		}
	}
}

// P17.2: a pack isn't there twice, keeps its number, and may have more chunks.
func TestAddAgain(t *testing.T) {
	var x Index
	x.Add("q", []zipfmt.Head{{Name: "b", At: 1}, {Name: "b", At: 2}})
	x.Add("p", nil)
	x.Add("q", []zipfmt.Head{{Name: "a", At: 3}, {Name: "b", At: 4}})
	x.Add("p", []zipfmt.Head{{Name: "a", At: 5}, {Name: "", At: 6}})
	if !slices.Equal(x.Packs(), []string{"q", "p"}) || !slices.Equal(x.Names(), []string{"", "a", "b"}) {
		t.Fatalf("%q, %q", x.Packs(), x.Names())
	}
	for name, want := range map[string]Place{
		"b": {"q", zipfmt.Head{Name: "b", At: 1}},
		"a": {"q", zipfmt.Head{Name: "a", At: 3}},
		"":  {"p", zipfmt.Head{At: 6}},
	} {
		if got := found(t, &x, name); got != want {
			t.Errorf("%q: %v", name, got)
		}
	}
	absent(t, "again", &x, "p", "q", "c", "A", "a\x00")
}

// someHead: a head by dice, with numbers that fit.
func someHead(r *rand.Rand, name string) zipfmt.Head {
	number := func() int {
		return []int{0, 1, 127, 128, 16383, 16384, math.MaxUint32, r.IntN(1 << 32)}[r.IntN(8)]
	}
	return zipfmt.Head{Name: name, Method: number(), Crc: uint32(number()), Packed: number(), Size: number(), At: number()}
}

// someIndex: an index by dice, of names out of a list, with its model.
func someIndex(r *rand.Rand, packs, names []string) (*Index, *model) {
	x, m := &Index{}, &model{}
	for range r.IntN(8) {
		pack := packs[r.IntN(len(packs))]
		var heads []zipfmt.Head
		for range r.IntN(6) {
			heads = append(heads, someHead(r, names[r.IntN(len(names))]))
		}
		x.Add(pack, heads)
		m.add(pack, heads)
	}
	return x, m
}

// shas: so many names of bytes.
func shas(n int) []string {
	var out []string
	for i := range n {
		out = append(out, sha(fmt.Sprint(i)))
	}
	return out
}

// P17.2, P17.3: behind any calls, with any names of packs and of chunks.
func TestAddDice(t *testing.T) {
	r := dice()
	odd := []string{"", "a", "b", "\x00", "\xff", "é", "ab", "a\x00", strings.Repeat("x", 300), sha("a"), sha("b")}
	for range 3000 {
		x, m := someIndex(r, odd, odd)
		same(t, "dice", x, m)
		if got, want := x.Encode(), m.bytes(); got != want {
			t.Fatalf("Encode: %x, not %x", got, want)
		}
	}
}

// P17.2, P1: numbers of any size stand as they are, and none makes a call panic.
func TestAddNumbers(t *testing.T) {
	for _, n := range []int{math.MinInt, -1, 1 << 32, math.MaxInt} {
		h := zipfmt.Head{Name: sha("a"), Method: n, Crc: math.MaxUint32, Packed: n, Size: n, At: n}
		var x Index
		x.Add("p", []zipfmt.Head{h})
		if got := found(t, &x, h.Name); got != (Place{"p", h}) {
			t.Errorf("%d: %v", n, got)
		}
		if y, e := Decode(x.Encode()); y != nil || e != api.ErrText {
			t.Errorf("%d: Decode: %d", n, e)
		}
	}
}

// P17.3: the very bytes.
func TestEncode(t *testing.T) {
	var x Index
	x.Add("zz", nil)
	x.Add("p", []zipfmt.Head{
		{Name: digits("b"), Method: 8, Crc: math.MaxUint32, Packed: 300, Size: 4096, At: 0},
		{Name: digits("a"), Method: 0, Crc: 0, Packed: 1, Size: 127, At: 128},
	})
	want := "\x02" + "\x02zz" + "\x01p" + "\x02" +
		"\x40" + digits("a") + "\x01" + "\x00" + "\x00" + "\x01" + "\x7f" + "\x80\x01" +
		"\x40" + digits("b") + "\x01" + "\x08" + "\xff\xff\xff\xff\x0f" + "\xac\x02" + "\x80\x20" + "\x00"
	if got := x.Encode(); got != want {
		t.Errorf("%x, not %x", got, want)
	}
	y, e := Decode(want)
	ok(t, e)
	if y.Encode() != want || !slices.Equal(y.Packs(), []string{"zz", "p"}) || found(t, y, digits("b")) != found(t, &x, digits("b")) {
		t.Errorf("Decode: %x", y.Encode())
	}
}

// P17.3, P6: what was encoded is decoded as it was, and can be added to.
func TestDecode(t *testing.T) {
	r := dice()
	names, odd := shas(20), []string{"", "p", "\x00", "é", "p" + sha("a"), "p" + sha("b"), strings.Repeat("x", 300)}
	for range 3000 {
		x, m := someIndex(r, odd, names)
		y, e := Decode(x.Encode())
		if e != api.OK {
			t.Fatalf("%x: %d", x.Encode(), e)
		}
		same(t, "Decode", y, m)
		more := []zipfmt.Head{someHead(r, names[0]), someHead(r, "more")}
		y.Add("p", more)
		m.add("p", more)
		same(t, "more", y, m)
	}
	many, m := &Index{}, &model{}
	for i, name := range shas(1000) {
		heads := []zipfmt.Head{someHead(r, name)}
		many.Add(fmt.Sprint(i%300), heads)
		m.add(fmt.Sprint(i%300), heads)
	}
	y, e := Decode(many.Encode())
	ok(t, e)
	same(t, "many", y, m)
}

// row: the bytes of an index of one pack and one chunk, a piece each.
func row() []string {
	return []string{"\x01", "\x01", "p", "\x01", "\x40", digits("a"), "\x00", "\x08", "\x01", "\x02", "\x03", "\x04"}
}

// with: the same with another piece.
func with(at int, piece string) string {
	l := row()
	l[at] = piece
	return strings.Join(l, "")
}

// P17.3: bytes of no index, and of some at the edge.
func TestDecodeRefuses(t *testing.T) {
	chunk := func(name string) string { return string(rune(len(name))) + name + "\x00\x08\x01\x02\x03\x04" }
	alone := func(name string) string { return "\x01\x01p\x01" + chunk(name) }
	most := "\xff\xff\xff\xff\x0f"
	for _, c := range []struct {
		what, s string
		want    api.Errno
	}{
		{"as it should be", with(0, "\x01"), api.OK},
		{"nothing", "", api.ErrText},
		{"no chunks' number", "\x00", api.ErrText},
		{"a byte more", "\x00\x00\x00", api.ErrText},
		{"a byte behind a chunk", with(11, "\x04\x00"), api.ErrText},
		{"packs alone", "\x01\x01p\x00", api.OK},
		{"an empty pack's name", "\x01\x00\x01" + chunk(digits("a")), api.OK},
		{"a pack twice", "\x02\x01a\x01a\x00", api.ErrText},
		{"an empty one twice", "\x02\x00\x00\x00", api.ErrText},
		{"a pack twice, apart, and a chunk in the second", "\x03\x01p\x01q\x01p\x01\x40" + digits("a") + "\x02\x08\x01\x02\x03\x04", api.ErrText},
		{"packs that fall", "\x02\x01b\x01a\x00", api.OK},
		{"a pack's name that has more bytes than there are", "\x01\x02p", api.ErrText},
		{"the most packs", most + "\x00\x00", api.ErrText},
		{"more packs than that", "\x80\x80\x80\x80\x10\x00\x00", api.ErrText},
		{"the most bytes of a name", "\x01" + most + "p\x00", api.ErrText},
		{"more than an int's", "\x01\xff\xff\xff\xff\xff\xff\xff\xff\xff\x01p\x00", api.ErrText},
		{"the most chunks", "\x00" + most, api.ErrText},
		{"a chunk in no pack", "\x00\x01" + chunk(digits("a")), api.ErrText},
		{"in a pack behind the last one", with(6, "\x01"), api.ErrText},
		{"in a pack far behind", with(6, most), api.ErrText},
		{"64 digits", alone(digits("a")), api.OK},
		{"no name", alone("a"), api.ErrText},
		{"an empty name", alone(""), api.ErrText},
		{"63 digits", alone(digits("a")[:63]), api.ErrText},
		{"65 digits", alone(digits("a") + "a"), api.ErrText},
		{"great letters", with(5, digits("A")), api.ErrText},
		{"other letters", with(5, digits("g")), api.ErrText},
		{"two chunks", with(3, "\x02") + chunk(digits("b")), api.OK},
		{"two that fall", with(3, "\x02") + chunk(digits("0")), api.ErrText},
		{"one twice", with(3, "\x02") + chunk(digits("a")), api.ErrText},
		{"one wanting", with(3, "\x02"), api.ErrText},
		{"one more", with(3, "\x01") + chunk(digits("b")), api.ErrText},
		{"another's with a bad name", with(3, "\x02") + chunk(digits("z")), api.ErrText},
	} {
		x, e := Decode(c.s)
		if e != c.want || (x == nil) != (e != api.OK) || x != nil && x.Encode() != c.s {
			t.Errorf("%s: %d, not %d", c.what, e, c.want)
		}
	}
}

// P17.3: numbers below 2^32 and no others, and each in as few bytes as can be.
func TestDecodeNumbers(t *testing.T) {
	most := "\xff\xff\xff\xff\x0f"
	for _, at := range []int{7, 8, 9, 10, 11} {
		for piece, want := range map[string]api.Errno{
			"\x00": api.OK, "\x7f": api.OK, "\x80\x01": api.OK, most: api.OK,
			"\x80\x80\x80\x80\x10": api.ErrText, "\xff\xff\xff\xff\xff\xff\xff\xff\xff\x01": api.ErrText,
			"\x80\x00": api.ErrText, "": api.ErrText, "\x80": api.ErrText, "\x81\x80\x00": api.ErrText,
		} {
			x, e := Decode(with(at, piece))
			if e != want || (x == nil) != (e != api.OK) {
				t.Fatalf("number %d as %x: %d, not %d", at, piece, e, want)
			}
			if piece != most || x == nil {
				continue
			}
			h := found(t, x, digits("a")).Head
			got := []int{h.Method, int(h.Crc), h.Packed, h.Size, h.At}
			want := []int{8, 1, 2, 3, 4}
			want[at-7] = math.MaxUint32
			if !slices.Equal(got, want) {
				t.Errorf("number %d: %d, not %d", at, got, want)
			}
		}
	}
	// Counts, names' lengths and packs' numbers stand in as few bytes as well.
	for at, piece := range map[int]string{0: "\x81\x00", 1: "\x81\x00", 3: "\x81\x00", 4: "\xc0\x00", 6: "\x80\x00"} {
		if x, e := Decode(with(at, piece)); x != nil || e != api.ErrText {
			t.Errorf("number %d as %x: %d", at, piece, e)
		}
	}
}

// P17.3, P1: bytes that were cut or changed are of no index, or just those of the one that is said.
func TestDecodeSpoilt(t *testing.T) {
	r := dice()
	x, _ := someIndex(r, []string{"p", "q", ""}, shas(6))
	for len(x.Names()) < 4 || len(x.Packs()) < 3 {
		x, _ = someIndex(r, []string{"p", "q", ""}, shas(6))
	}
	s := x.Encode()
	for n := range len(s) {
		if y, e := Decode(s[:n]); y != nil || e != api.ErrText {
			t.Fatalf("%d bytes: %d", n, e)
		}
	}
	taken, refused := 0, 0
	check := func(s string) {
		y, e := Decode(s)
		switch {
		case e == api.OK && y.Encode() == s && !slices.ContainsFunc(y.Names(), func(n string) bool { return len(n) != 64 || strings.Trim(n, "0123456789abcdef") != "" }):
			taken++
		case e == api.ErrText && y == nil:
			refused++
		default:
			t.Fatalf("%x: %d", s, e)
		}
	}
	for at := range len(s) {
		for c := range 256 {
			check(s[:at] + string([]byte{byte(c)}) + s[at+1:])
		}
	}
	for range 100000 {
		few := make([]byte, r.IntN(8))
		for i := range few {
			few[i] = byte(r.IntN(4))
		}
		check(string(few))
	}
	if taken < 1000 || refused < 1000 {
		t.Errorf("%d taken, %d refused, too few to tell", taken, refused)
	}
}

// P17.1: packs by rising names, whichever was published first; of a chunk in two of them the first place counts.
func TestOf(t *testing.T) {
	r := dice()
	for range 200 {
		d, m := fresh(t), &model{}
		all := map[string]string{}
		for range r.IntN(6) {
			chunks := map[string]int{}
			for range 1 + r.IntN(5) {
				chunks[fmt.Sprint("chunk ", r.IntN(12))]++
			}
			s := built(t, slices.Collect(maps.Keys(chunks))...)
			all[lay(t, d, s)] = s
		}
		for _, name := range slices.Sorted(maps.Keys(all)) {
			m.add(name, headsIn(t, all[name]))
		}
		x, bad, e := Of(d)
		if e != api.OK || len(bad) != 0 {
			t.Fatalf("%q, %d", bad, e)
		}
		same(t, "Of", x, m)
		y, e := Decode(x.Encode())
		ok(t, e)
		same(t, "Decode", y, m)
	}
}

// P17.1: an empty disk, and one with files that aren't called like packs.
func TestOfNoPacks(t *testing.T) {
	d := fresh(t)
	s := built(t, "a")
	for range 2 {
		x, bad, e := Of(d)
		if e != api.OK || len(bad) != 0 || x.Encode() != "\x00\x00" {
			t.Errorf("%q, %d", bad, e)
		}
		for _, name := range []string{"tmp", "log", "s" + sha(s), sha(s), "P" + sha(s), "p" + strings.ToUpper(sha("a")), "p" + sha(s)[:63], "p" + sha(s) + "0", "pp" + sha(s), "p"} {
			ok(t, d.Append(name, s))
		}
	}
}

// P17.1: what is spoilt is told, whatever is wrong with it, by rising names; what stands beside it is sound.
func TestOfSpoilt(t *testing.T) {
	most := strings.Repeat("x", 4097)
	good := []string{
		built(t, "a"),
		built(t, "b", most[:4096]),
		archive(t, sha("c"), "not called so"), // only Chunk tells that
		zipfmt.Index(nil, 0),                  // a pack without chunks
	}
	wrong := []string{
		"", "x", built(t, "d") + "\x00", built(t, "e")[1:],
		archive(t, sha(""), ""), archive(t, sha(most), most), archive(t, "f", "f"), archive(t, strings.ToUpper(sha("a")), "a"),
		zipfmt.Index([]zipfmt.Head{{Name: digits("b"), Size: 1}, {Name: digits("a"), Size: 1}}, 0),
		strings.Repeat("\x00", zipfmt.MaxBytes),
	}
	d := fresh(t)
	var bad, names []string
	for _, s := range wrong {
		bad = append(bad, lay(t, d, s))
	}
	for _, s := range []string{"g", "h"} {
		// A sound pack, but not under its own name.
		name := "p" + sha(s)
		ok(t, packs.Publish(d, name, built(t, s)))
		bad = append(bad, name)
	}
	m, all := &model{}, map[string]string{}
	for _, s := range good {
		name := lay(t, d, s)
		names, all[name] = append(names, name), s
	}
	slices.Sort(bad)
	slices.Sort(names)
	for _, name := range names {
		m.add(name, headsIn(t, all[name]))
	}
	x, got, e := Of(d)
	if e != api.OK || !slices.Equal(got, bad) {
		t.Fatalf("%q, not %q, %d", got, bad, e)
	}
	same(t, "sound ones", x, m)
	if len(x.Packs()) != len(good) {
		t.Errorf("%q", x.Packs())
	}
}

// P17.1: whichever byte is spoilt; the chunks stand in the next pack that has them.
func TestOfSpoiltByte(t *testing.T) {
	one, two := built(t, "a", "b"), built(t, "b", "c")
	for _, s := range []string{one, two} {
		other := one
		if s == one {
			other = two
		}
		for at := range len(s) {
			d, m := fresh(t), &model{}
			lay(t, d, other)
			name := lay(t, d, s)
			ok(t, d.Spoil(name, at, s[at]^byte(1<<(at%8))))
			m.add("p"+sha(other), headsIn(t, other))
			x, bad, e := Of(d)
			if e != api.OK || !slices.Equal(bad, []string{name}) {
				t.Fatalf("byte %d: %q, %d", at, bad, e)
			}
			same(t, "the other one", x, m)
		}
	}
}

// P17.1: a dead disk has no answer but that.
func TestOfDead(t *testing.T) {
	for _, text := range []string{"", built(t, "a"), "spoilt"} {
		d := fresh(t)
		if text != "" {
			lay(t, d, text)
		}
		d.Arm(0)
		if e := d.Settle(); e != api.ErrDead {
			t.Fatalf("Settle: %d", e)
		}
		if x, bad, e := Of(d); x != nil || len(bad) != 0 || e != api.ErrDead {
			t.Errorf("%v, %q, %d", x, bad, e)
		}
		d.Crash()
		if _, _, e := Of(d); e != api.OK {
			t.Errorf("behind a crash: %d", e)
		}
	}
}

// P17.1, P2: Of changes nothing on the disk, and isn't one of the calls behind which it dies.
func TestOfChangesNothing(t *testing.T) {
	d := fresh(t)
	lay(t, d, built(t, "a"))
	lay(t, d, "spoilt")
	ok(t, d.Append("tmp", "left"))
	before := told(d)
	d.Arm(0)
	first, firstBad, _ := Of(d)
	for range 3 {
		x, bad, e := Of(d)
		if e != api.OK || x.Encode() != first.Encode() || !slices.Equal(bad, firstBad) || len(bad) != 1 {
			t.Errorf("%q, %d", bad, e)
		}
	}
	if after := told(d); after != before {
		t.Errorf("%q, not %q", after, before)
	}
	d.Crash()
	if _, e := d.Read("tmp"); e != api.ErrAbsent {
		t.Errorf("the folder was settled: %d", e)
	}
}

// told: all files of a disk.
func told(d *disk.Disk) string {
	names, _ := d.List()
	out := ""
	for _, name := range names {
		s, _ := d.Read(name)
		out += fmt.Sprintf("%q %q ", name, s)
	}
	return out
}

// P17.4, K3: what is handed in isn't changed, nor kept, nor the room behind it; answers are new memory.
func TestNewMemory(t *testing.T) {
	room := []zipfmt.Head{{Name: "b", At: 1}, {Name: "a", At: 2}, {Name: "behind", At: 3}}
	was := slices.Clone(room)
	var x Index
	x.Add("p", room[:2])
	if !slices.Equal(room, was) {
		t.Error("what was handed in has changed")
	}
	clear(room)
	m := &model{}
	m.add("p", was[:2])
	same(t, "kept", &x, m)
	for _, answer := range []func() []string{x.Names, x.Packs} {
		one, two := answer(), answer()
		want := slices.Clone(two)
		_ = append(one[:0], "other")
		clear(one)
		if !slices.Equal(two, want) || !slices.Equal(answer(), want) {
			t.Errorf("%q, not %q", answer(), want)
		}
	}
	p := found(t, &x, "a")
	p.Pack, p.Head.At = "", 0
	same(t, "as it was", &x, m)
	d := fresh(t)
	lay(t, d, "spoilt")
	_, one, _ := Of(d)
	_, two, _ := Of(d)
	clear(one)
	if two[0] == "" {
		t.Error("two answers share memory")
	}
	// What Names and Packs answered once stands, whatever is added.
	names, packs := x.Names(), x.Packs()
	x.Add("0", []zipfmt.Head{{Name: "0"}})
	if !slices.Equal(names, []string{"a", "b"}) || !slices.Equal(packs, []string{"p"}) {
		t.Errorf("%q, %q", names, packs)
	}
}

// K4: no order of a map shows.
func TestSame(t *testing.T) {
	r := dice()
	x, _ := someIndex(r, []string{"p", "q", "r", "s"}, shas(50))
	names, packs, s := x.Names(), x.Packs(), x.Encode()
	for range 50 {
		if !slices.Equal(x.Names(), names) || !slices.Equal(x.Packs(), packs) || x.Encode() != s {
			t.Fatal("another answer")
		}
	}
}
