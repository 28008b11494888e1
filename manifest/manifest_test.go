package manifest

import (
	"cmp"
	"crypto/sha256"
	"encoding/binary"
	"fmt"
	"math"
	"math/rand/v2"
	"slices"
	"strings"
	"testing"

	"cellarer/api"
	"cellarer/disk"
	"cellarer/packs"
)

// dice: the same numbers in every run.
func dice() *rand.Rand {
	return rand.New(rand.NewPCG(31, 19))
}

// sha: a name of bytes, by the library.
func sha(s string) string {
	return fmt.Sprintf("%x", sha256.Sum256([]byte(s)))
}

// sum: 32 bytes of one letter.
func sum(c string) string {
	return strings.Repeat(c, 32)
}

// row: a manifest's bytes, by the library's numbers.
func row(m Manifest) string {
	out := []byte("snap")
	out = binary.AppendUvarint(out, uint64(m.Time))
	for _, s := range []string{m.Tag, m.Parent} {
		out = append(binary.AppendUvarint(out, uint64(len(s))), s...)
	}
	out = binary.AppendUvarint(out, uint64(m.Size))
	out = binary.AppendUvarint(out, uint64(len(m.Chunks)))
	return string(out) + strings.Join(m.Chunks, "")
}

// same: are all fields of two manifests alike?
func same(a, b Manifest) bool {
	return a.Time == b.Time && a.Tag == b.Tag && a.Parent == b.Parent && a.Size == b.Size && slices.Equal(a.Chunks, b.Chunks)
}

// zero: has it nothing at all?
func zero(m Manifest) bool {
	return same(m, Manifest{})
}

// plain: a manifest in form.
func plain() Manifest {
	return Manifest{Time: 5, Size: 1, Chunks: []string{sum("c")}}
}

// full: a manifest in form with all fields.
func full() Manifest {
	return Manifest{Time: 1136214245, Tag: "é 日", Parent: sha("ahead"), Size: 300, Chunks: []string{sum("a"), sum("b"), sum("a")}}
}

// some: a manifest in form by dice.
func some(r *rand.Rand) Manifest {
	m := Manifest{Time: r.IntN(1 << r.IntN(37)), Size: 1 + r.IntN(1<<r.IntN(22))}
	if r.IntN(2) == 0 {
		m.Tag = strings.Repeat("xé", 1+r.IntN(20))
	}
	if r.IntN(2) == 0 {
		m.Parent = sha(fmt.Sprint(r.IntN(1000)))
	}
	for range 1 + r.IntN(min(m.Size, 6)) {
		s := sha256.Sum256([]byte{byte(r.IntN(256))})
		m.Chunks = append(m.Chunks, string(s[:]))
	}
	return m
}

// fresh: an empty disk of that room.
func fresh(t *testing.T, room int) *disk.Disk {
	t.Helper()
	d, e := disk.New(room)
	if e != api.OK {
		t.Fatalf("disk: %d", e)
	}
	return d
}

// ok: calls that are to be answered by OK.
func ok(t *testing.T, all ...api.Errno) {
	t.Helper()
	for i, e := range all {
		if e != api.OK {
			t.Fatalf("call %d: %d", i, e)
		}
	}
}

// is: a call that is to be answered by want.
func is(t *testing.T, what string, got, want api.Errno) {
	t.Helper()
	if got != want {
		t.Errorf("%s: %d, not %d", what, got, want)
	}
}

// lay: a file with these bytes, safely.
func lay(t *testing.T, d *disk.Disk, name, data string) {
	t.Helper()
	ok(t, d.Append(name, data), d.Sync(name), d.Settle())
}

// published: the name of a manifest that is published; it is that of its bytes.
func published(t *testing.T, d *disk.Disk, m Manifest) string {
	t.Helper()
	id, e := Publish(d, m)
	if e != api.OK || id != sha(row(m)) {
		t.Fatalf("Publish: %q, %d", id, e)
	}
	return id
}

// told: all files of a disk, or why there are none to be seen.
func told(d *disk.Disk) string {
	names, e := d.List()
	out := fmt.Sprint(e)
	for _, name := range names {
		s, _ := d.Read(name)
		out += fmt.Sprintf(" %s %q", name, s)
	}
	return out
}

// dead: a disk that has died.
func dead(t *testing.T, d *disk.Disk) {
	t.Helper()
	d.Arm(0)
	is(t, "dies", d.Settle(), api.ErrDead)
}

// refuses: Load of this name has this error, and nothing else.
func refuses(t *testing.T, what string, d *disk.Disk, id string, want api.Errno) {
	t.Helper()
	if m, e := Load(d, id); e != want || !zero(m) {
		t.Errorf("%s: %v, %d, not %d", what, m, e, want)
	}
}

// loads: Load of this name answers this manifest.
func loads(t *testing.T, what string, d *disk.Disk, id string, want Manifest) {
	t.Helper()
	if m, e := Load(d, id); e != api.OK || !same(m, want) {
		t.Fatalf("%s: %v, %d, not %v", what, m, e, want)
	}
}

// lists: List answers these manifests, by times and names, and these spoilt ones.
func lists(t *testing.T, what string, d *disk.Disk, want []Manifest, spoilt ...string) {
	t.Helper()
	var snaps []api.Snap
	for _, m := range want {
		snaps = append(snaps, api.Snap{Id: sha(row(m)), Time: m.Time, Tag: m.Tag})
	}
	slices.SortFunc(snaps, func(a, b api.Snap) int {
		if a.Time != b.Time {
			return cmp.Compare(a.Time, b.Time)
		}
		return cmp.Compare(a.Id, b.Id)
	})
	slices.Sort(spoilt)
	got, bad, e := List(d)
	if e != api.OK || !slices.Equal(got, snaps) || !slices.Equal(bad, spoilt) {
		t.Fatalf("%s: %v, %v, %d, not %v, %v", what, got, bad, e, snaps, spoilt)
	}
}

// P19.1: the names and bounds are the document's.
func TestConstants(t *testing.T) {
	if Front != "s" || MaxSize != 4194304 {
		t.Error(Front, MaxSize)
	}
}

// P19.1: the chapter's example.
func TestExample(t *testing.T) {
	want := "\x73\x6e\x61\x70\x05\x00\x00\x01\x01" + sum("c")
	if s, e := Encode(plain()); e != api.OK || s != want {
		t.Errorf("%x, %d", s, e)
	}
	if m, e := Decode(want); e != api.OK || !same(m, plain()) {
		t.Errorf("%v, %d", m, e)
	}
}

// chunks: so many sums.
func chunks(n int) []string {
	return slices.Repeat([]string{sum("x")}, n)
}

// laidOut: can its bytes be laid out, whether it is in form or not?
func laidOut(m Manifest) bool {
	for _, c := range m.Chunks {
		if len(c) != 32 {
			return false
		}
	}
	return m.Time >= 0 && m.Time <= 1<<40 && m.Size >= 0 && m.Size <= 1<<40
}

// P19.1: what is in form, at its bounds, and what isn't; Encode and Publish refuse the same.
func TestCheck(t *testing.T) {
	one, two := chunks(1), chunks(2)
	digits := sha("x")
	name := strings.Repeat("n", 60)
	for _, c := range []struct {
		what string
		m    Manifest
		want api.Errno
	}{
		{"plain", plain(), api.OK},
		{"full", full(), api.OK},
		{"nothing", Manifest{}, api.ErrForm},
		{"time 0", Manifest{Size: 1, Chunks: one}, api.OK},
		{"time -1", Manifest{Time: -1, Size: 1, Chunks: one}, api.ErrForm},
		{"the least time", Manifest{Time: math.MinInt, Size: 1, Chunks: one}, api.ErrForm},
		{"the last time", Manifest{Time: 253402300799, Size: 1, Chunks: one}, api.OK},
		{"a time too late", Manifest{Time: 253402300800, Size: 1, Chunks: one}, api.ErrForm},
		{"the greatest time", Manifest{Time: math.MaxInt, Size: 1, Chunks: one}, api.ErrForm},
		{"a tag", Manifest{Tag: "a b", Size: 1, Chunks: one}, api.OK},
		{"a tag of 60", Manifest{Tag: name, Size: 1, Chunks: one}, api.OK},
		{"a tag of 61", Manifest{Tag: name + "n", Size: 1, Chunks: one}, api.ErrForm},
		{"a path as tag", Manifest{Tag: "x/y", Size: 1, Chunks: one}, api.ErrForm},
		{"a dot as tag", Manifest{Tag: ".", Size: 1, Chunks: one}, api.ErrForm},
		{"two dots as tag", Manifest{Tag: "..", Size: 1, Chunks: one}, api.ErrForm},
		{"three dots as tag", Manifest{Tag: "...", Size: 1, Chunks: one}, api.OK},
		{"a broken tag", Manifest{Tag: "a\xff", Size: 1, Chunks: one}, api.ErrForm},
		{"a tag with 0", Manifest{Tag: "a\x00", Size: 1, Chunks: one}, api.ErrForm},
		{"a tag with 127", Manifest{Tag: "a\x7f", Size: 1, Chunks: one}, api.ErrForm},
		{"a parent", Manifest{Parent: digits, Size: 1, Chunks: one}, api.OK},
		{"a parent's file", Manifest{Parent: "s" + digits, Size: 1, Chunks: one}, api.ErrForm},
		{"a parent of 63", Manifest{Parent: digits[1:], Size: 1, Chunks: one}, api.ErrForm},
		{"a parent of 65", Manifest{Parent: digits + "0", Size: 1, Chunks: one}, api.ErrForm},
		{"a parent's sum", Manifest{Parent: sum("p"), Size: 1, Chunks: one}, api.ErrForm},
		{"a great parent", Manifest{Parent: strings.ToUpper(digits), Size: 1, Chunks: one}, api.ErrForm},
		{"size 0", Manifest{Chunks: one}, api.ErrForm},
		{"size 0, no chunks", Manifest{Time: 5}, api.ErrForm},
		{"size -1", Manifest{Size: -1, Chunks: one}, api.ErrForm},
		{"the least size", Manifest{Size: math.MinInt, Chunks: one}, api.ErrForm},
		{"the greatest size in form", Manifest{Size: 4194304, Chunks: one}, api.OK},
		{"a size too great", Manifest{Size: 4194305, Chunks: one}, api.ErrForm},
		{"the greatest size", Manifest{Size: math.MaxInt, Chunks: one}, api.ErrForm},
		{"no chunks", Manifest{Size: 1}, api.ErrForm},
		{"no chunks, empty", Manifest{Size: 1, Chunks: []string{}}, api.ErrForm},
		{"two chunks of 2", Manifest{Size: 2, Chunks: two}, api.OK},
		{"two chunks of 1", Manifest{Size: 1, Chunks: two}, api.ErrForm},
		{"a chunk of 31 bytes", Manifest{Size: 5, Chunks: []string{one[0], one[0][1:]}}, api.ErrForm},
		{"a chunk of 33 bytes", Manifest{Size: 5, Chunks: []string{one[0] + "x", one[0]}}, api.ErrForm},
		{"31 and 33 bytes", Manifest{Size: 5, Chunks: []string{one[0][1:], one[0] + "x"}}, api.ErrForm},
		{"an empty chunk", Manifest{Size: 5, Chunks: []string{""}}, api.ErrForm},
		{"a chunk's name", Manifest{Size: 5, Chunks: []string{digits}}, api.ErrForm},
		{"200 chunks", Manifest{Size: 200, Chunks: chunks(200)}, api.OK},
		{"201 chunks of 200", Manifest{Size: 200, Chunks: chunks(201)}, api.ErrForm},
	} {
		is(t, c.what, Check(c.m), c.want)
		s, e := Encode(c.m)
		if e != c.want || e == api.OK && s != row(c.m) || e != api.OK && s != "" {
			t.Errorf("%s: Encode: %q, %d", c.what, s, e)
		}
		d := fresh(t, 100000)
		id, e := Publish(d, c.m)
		if e != c.want || e == api.OK && id != sha(row(c.m)) || e != api.OK && (id != "" || told(d) != "0") {
			t.Errorf("%s: Publish: %q, %d, %s", c.what, id, e, told(d))
		}
		// Bytes that are laid out so are refused for what they tell alone.
		if laidOut(c.m) {
			m, e := Decode(row(c.m))
			if e != c.want || e == api.OK && !same(m, c.m) || e != api.OK && !zero(m) {
				t.Errorf("%s: Decode: %v, %d", c.what, m, e)
			}
		}
	}
}

// P19.1: as many chunks as there may be, and one more.
func TestCheckMost(t *testing.T) {
	all := chunks(MaxSize + 1)
	is(t, "as many as bytes", Check(Manifest{Size: MaxSize, Chunks: all[:MaxSize]}), api.OK)
	is(t, "one less", Check(Manifest{Size: MaxSize - 1, Chunks: all[:MaxSize]}), api.ErrForm)
	is(t, "one more", Check(Manifest{Size: MaxSize + 1, Chunks: all}), api.ErrForm)
	all[MaxSize-1] = "x"
	is(t, "the last one", Check(Manifest{Size: MaxSize, Chunks: all[:MaxSize]}), api.ErrForm)
}

// P19.1, P6: what was encoded is decoded, and the bytes are the chapter's.
func TestEncodeDecode(t *testing.T) {
	r := dice()
	all := []Manifest{plain(), full(), {Time: api.MaxTime, Size: MaxSize, Chunks: chunks(100000)}}
	for range 2000 {
		all = append(all, some(r))
	}
	for _, m := range all {
		s, e := Encode(m)
		if e != api.OK || s != row(m) {
			t.Fatalf("Encode: %.200x, %d, not %.200x", s, e, row(m))
		}
		if back, e := Decode(s); e != api.OK || !same(back, m) {
			t.Fatalf("Decode: %.200x, %d", s, e)
		}
	}
}

// pieces: a manifest's bytes, part by part.
func pieces() []string {
	return []string{"snap", "\x05", "\x01", "x", "\x40", sha("ahead"), "\x07", "\x02", sum("a"), sum("b")}
}

// with: the bytes with one of the parts replaced.
func with(at int, piece string) string {
	p := pieces()
	p[at] = piece
	return strings.Join(p, "")
}

// P19.1: bytes that aren't laid out so; and which are, but tell no manifest in form.
func TestDecodeRefuses(t *testing.T) {
	number := func(x uint64) string { return string(binary.AppendUvarint(nil, x)) }
	whole := strings.Join(pieces(), "")
	for _, c := range []struct {
		what, s string
		want    api.Errno
	}{
		{"whole", whole, api.OK},
		{"nothing", "", api.ErrText},
		{"the mark alone", "snap", api.ErrText},
		{"another mark", with(0, "Snap"), api.ErrText},
		{"another mark's end", with(0, "snaq"), api.ErrText},
		{"no mark", with(0, ""), api.ErrText},
		{"a byte ahead", "s" + whole, api.ErrText},
		{"a byte behind", whole + "\x00", api.ErrText},
		{"twice", whole + whole, api.ErrText},
		{"a time with a group too many", with(1, "\x85\x00"), api.ErrText},
		{"a size with a group too many", with(6, "\x87\x00"), api.ErrText},
		{"a count with a group too many", with(7, "\x82\x00"), api.ErrText},
		{"a tag's length with a group too many", with(2, "\x81\x00"), api.ErrText},
		{"the last time", with(1, number(253402300799)), api.OK},
		{"a time too late", with(1, number(253402300800)), api.ErrForm},
		{"time 2^40", with(1, number(1<<40)), api.ErrForm},
		{"time 2^40 + 1", with(1, number(1<<40+1)), api.ErrText},
		{"time 2^63", with(1, number(1<<63)), api.ErrText},
		{"the greatest time", with(1, number(math.MaxUint64)), api.ErrText},
		{"a time above that", with(1, strings.Repeat("\xff", 9)+"\x02"), api.ErrText},
		{"a tag out of form", with(3, "/"), api.ErrForm},
		{"a broken tag", with(3, "\xff"), api.ErrForm},
		{"a tag of 2^40", with(2, number(1<<40)), api.ErrText},
		{"a tag of 2^63", with(2, number(1<<63)), api.ErrText},
		{"a tag of all bytes", "snap\x05\x05xxxxx", api.ErrText},
		{"a tag of one more", "snap\x05\x06xxxxx", api.ErrText},
		{"a parent out of form", with(5, strings.ToUpper(sha("ahead"))), api.ErrForm},
		{"a parent of one", strings.Replace(with(4, "\x01"), sha("ahead"), "a", 1), api.ErrForm},
		{"a parent of 2^64 - 1", with(4, number(math.MaxUint64)), api.ErrText},
		{"size 0", with(6, "\x00"), api.ErrForm},
		{"size 1", with(6, "\x01"), api.ErrForm},
		{"size 2", with(6, "\x02"), api.OK},
		{"the greatest size in form", with(6, number(MaxSize)), api.OK},
		{"a size too great", with(6, number(MaxSize+1)), api.ErrForm},
		{"size 2^40", with(6, number(1<<40)), api.ErrForm},
		{"size 2^40 + 1", with(6, number(1<<40+1)), api.ErrText},
		{"size 2^64 - 1", with(6, number(math.MaxUint64)), api.ErrText},
		{"a chunk told too few", with(7, "\x01"), api.ErrText},
		{"a chunk told too many", with(7, "\x03"), api.ErrText},
		{"no chunks told", with(7, "\x00"), api.ErrText},
		{"no chunks", "snap\x05\x00\x00\x01\x00", api.ErrForm},
		{"no chunks, size 0", "snap\x05\x00\x00\x00\x00", api.ErrForm},
		{"2^40 chunks", with(7, number(1<<40)), api.ErrText},
		{"2^59 chunks", with(7, number(1<<59+2)), api.ErrText},
		{"2^63 chunks", with(7, number(1<<63)), api.ErrText},
		{"a chunk a byte short", with(9, sum("b")[1:]), api.ErrText},
		{"a chunk a byte long", with(9, sum("b")+"b"), api.ErrText},
		{"the layout ahead of the form", with(3, "/") + "x", api.ErrText},
	} {
		m, e := Decode(c.s)
		if e != c.want || e != api.OK && !zero(m) || e == api.OK && row(m) != c.s {
			t.Errorf("%s: %v, %d, not %d", c.what, m, e, c.want)
		}
	}
	for n := range len(whole) {
		if m, e := Decode(whole[:n]); e != api.ErrText || !zero(m) {
			t.Errorf("the first %d bytes: %v, %d", n, m, e)
		}
	}
}

// P19.1: whatever bytes are decoded, they are those that Encode makes of what comes out.
func TestDecodeSpoilt(t *testing.T) {
	r := dice()
	taken := 0
	check := func(s string) {
		t.Helper()
		m, e := Decode(s)
		switch {
		case e == api.OK:
			taken++
			if again, e := Encode(m); e != api.OK || again != s {
				t.Fatalf("%x: %v, and %x, %d", s, m, again, e)
			}
		case e != api.ErrText && e != api.ErrForm || !zero(m):
			t.Fatalf("%x: %v, %d", s, m, e)
		}
	}
	for _, m := range []Manifest{plain(), full(), {Tag: "t", Size: 2, Chunks: chunks(2)}} {
		s := row(m)
		for at := range s {
			for c := range 256 {
				check(s[:at] + string([]byte{byte(c)}) + s[at+1:])
				check(s[:at] + string([]byte{byte(c)}) + s[at:])
			}
			check(s[:at] + s[at+1:])
		}
	}
	for range 100000 {
		s := []byte(row(some(r)))
		for range 1 + r.IntN(4) {
			s[r.IntN(len(s))] = byte(r.IntN(256))
		}
		check(string(s))
	}
	for range 100000 {
		s := []byte("snap")
		for range r.IntN(50) {
			s = append(s, byte(r.IntN(1<<r.IntN(9))))
		}
		check(string(s))
	}
	if taken < 1000 {
		t.Errorf("only %d were taken", taken)
	}
}

// P19.1: unlike manifests have unlike bytes, and so unlike names.
func TestUnlike(t *testing.T) {
	all := []Manifest{full()}
	for _, change := range []func(*Manifest){
		func(m *Manifest) { m.Time++ },
		func(m *Manifest) { m.Tag = "" },
		func(m *Manifest) { m.Tag = "é 月" },
		func(m *Manifest) { m.Parent = "" },
		func(m *Manifest) { m.Parent = sha("another") },
		func(m *Manifest) { m.Size++ },
		func(m *Manifest) { m.Chunks = m.Chunks[:2] },
		func(m *Manifest) { m.Chunks = append(m.Chunks, sum("a")) },
		func(m *Manifest) { m.Chunks[0], m.Chunks[1] = m.Chunks[1], m.Chunks[0] },
	} {
		m := full()
		change(&m)
		all = append(all, m)
	}
	d := fresh(t, 100000)
	for _, m := range all {
		published(t, d, m)
	}
	lists(t, "all", d, all)
}

// P19.2: what was published is loaded, safely, and needs one file alone.
func TestPublish(t *testing.T) {
	r := dice()
	d := fresh(t, 1000000)
	lay(t, d, "log", "beside")
	var all []Manifest
	var ids []string
	for range 100 {
		m := some(r)
		all, ids = append(all, m), append(ids, published(t, d, m))
		d.Crash()
		for i, id := range ids {
			loads(t, "behind a crash", d, id, all[i])
		}
	}
	names, _ := d.List()
	slices.Sort(ids)
	if want := "log"; len(names) != len(slices.Compact(ids))+1 || names[0] != want {
		t.Errorf("%v", names)
	}
	for i, id := range slices.Compact(ids) {
		if names[i+1] != "s"+id {
			t.Errorf("%s, not %s", names[i+1], id)
		}
	}
	s, e := d.Read("s" + sha(row(all[0])))
	if e != api.OK || s != row(all[0]) {
		t.Errorf("%x, %d", s, e)
	}
}

// P19.2: one that is there already stays one, and needs no room; spoilt, it is whole again.
func TestPublishAgain(t *testing.T) {
	size := len(row(full()))
	d := fresh(t, size)
	id := published(t, d, full())
	published(t, d, full())
	lists(t, "again", d, []Manifest{full()})
	d = fresh(t, 2*size)
	published(t, d, full())
	ok(t, d.Spoil("s"+id, 7, 0))
	lists(t, "spoilt", d, nil, id)
	published(t, d, full())
	lists(t, "mended", d, []Manifest{full()})
	loads(t, "mended", d, id, full())
}

// P19.2: errors of the disk, behind that of Check.
func TestPublishErrors(t *testing.T) {
	d := fresh(t, 1000)
	published(t, d, plain())
	lay(t, d, "beside", strings.Repeat("x", 1000-len(row(plain()))-len(row(full()))+1))
	if id, e := Publish(d, full()); e != api.ErrSpace || id != "" {
		t.Errorf("full: %q, %d", id, e)
	}
	lists(t, "full", d, []Manifest{plain()})
	if id, e := Publish(d, Manifest{}); e != api.ErrForm || id != "" {
		t.Errorf("full, and out of form: %q, %d", id, e)
	}
	dead(t, d)
	if id, e := Publish(d, full()); e != api.ErrDead || id != "" {
		t.Errorf("dead: %q, %d", id, e)
	}
	if id, e := Publish(d, Manifest{}); e != api.ErrForm || id != "" {
		t.Errorf("dead, and out of form: %q, %d", id, e)
	}
}

// P19.2: names that are none, that aren't there, and a dead disk.
func TestLoadErrors(t *testing.T) {
	d := fresh(t, 10000)
	id := published(t, d, full())
	none := []string{"", "x", "s", "s" + id, id + "0", id[1:], strings.ToUpper(id), " " + id[1:], id[:63] + "\x00", "s" + id[1:]}
	for _, name := range none {
		refuses(t, fmt.Sprintf("%q", name), d, name, api.ErrForm)
	}
	refuses(t, "not there", d, strings.Repeat("0", 64), api.ErrAbsent)
	lay(t, d, "p"+strings.Repeat("0", 64), "")
	lay(t, d, strings.Repeat("0", 64), "")
	refuses(t, "other files", d, strings.Repeat("0", 64), api.ErrAbsent)
	dead(t, d)
	refuses(t, "dead", d, id, api.ErrDead)
	refuses(t, "dead, and not there", d, strings.Repeat("0", 64), api.ErrDead)
	for _, name := range none {
		refuses(t, fmt.Sprintf("dead, %q", name), d, name, api.ErrForm)
	}
	d.Crash()
	loads(t, "alive", d, id, full())
}

// P19.2, P19.3, P4: whichever byte is spoilt, nothing is loaded; the same byte again, and it is.
func TestLoadSpoilt(t *testing.T) {
	d := fresh(t, 10000)
	published(t, d, plain())
	id := published(t, d, full())
	s := row(full())
	for at := range len(s) {
		for _, c := range []byte{0, 1, s[at] ^ 1, s[at] ^ 0x80, 'a', 255} {
			ok(t, d.Spoil("s"+id, at, c))
			if c == s[at] {
				loads(t, "the same byte", d, id, full())
				continue
			}
			refuses(t, fmt.Sprint("byte ", at, " is ", c), d, id, api.ErrLoss)
			lists(t, "spoilt", d, []Manifest{plain()}, id)
		}
		ok(t, d.Spoil("s"+id, at, s[at]))
	}
	loads(t, "as it was", d, id, full())
}

// P19.3, P4: a sound manifest under another one's name isn't that one; nor is one with bytes more or less.
func TestLoadSure(t *testing.T) {
	d := fresh(t, 10000)
	a, b := published(t, d, plain()), published(t, d, full())
	ok(t, d.Rename("s"+a, "s"+b))
	refuses(t, "the other one's bytes", d, b, api.ErrLoss)
	refuses(t, "renamed", d, a, api.ErrAbsent)
	lists(t, "renamed", d, nil, b)
	ok(t, d.Rename("s"+b, "s"+a))
	loads(t, "its own name", d, a, plain())
	ok(t, d.Append("s"+a, "\x00"))
	refuses(t, "a byte more", d, a, api.ErrLoss)
	ok(t, d.Append("s"+b, ""))
	refuses(t, "empty", d, b, api.ErrLoss)
	lists(t, "both", d, nil, a, b)
}

// P19.2: files that are called by their bytes, which tell no manifest.
func TestLoadNoManifest(t *testing.T) {
	d := fresh(t, 100000)
	var spoilt []string
	for _, s := range []string{"", "snap", "x", row(plain()) + "x", row(plain())[1:], row(Manifest{}), row(Manifest{Time: 1, Size: 1}),
		row(Manifest{Tag: "a/b", Size: 1, Chunks: chunks(1)}), row(Manifest{Parent: "x", Size: 1, Chunks: chunks(1)}),
		row(Manifest{Size: 1, Chunks: chunks(2)}), row(Manifest{Time: api.MaxTime + 1, Size: 1, Chunks: chunks(1)})} {
		ok(t, packs.Publish(d, "s"+sha(s), s))
		refuses(t, fmt.Sprintf("%q", s), d, sha(s), api.ErrLoss)
		spoilt = append(spoilt, sha(s))
	}
	published(t, d, full())
	lists(t, "one is", d, []Manifest{full()}, spoilt...)
}

// P19.2: by rising times, those of one time by rising names; other files aren't told.
func TestList(t *testing.T) {
	r := dice()
	for range 50 {
		d := fresh(t, 1000000)
		lists(t, "empty", d, nil)
		for _, name := range []string{"log", "tmp", "s", "s" + sha("x")[1:], "s" + sha("x") + "0", "S" + sha("x"), "p" + sha("x"), sha("x"), "ss" + sha("x")[1:] + "0", "s" + strings.ToUpper(sha("abc"))} {
			lay(t, d, name, row(plain()))
		}
		lists(t, "other files", d, nil)
		var all []Manifest
		var spoilt []string
		for i := range 20 {
			m := Manifest{Time: r.IntN(1 + r.IntN(8)), Size: 1000 + i, Chunks: chunks(1 + r.IntN(3))}
			if r.IntN(2) == 0 {
				m.Tag = fmt.Sprint("tag ", r.IntN(3))
			}
			id := published(t, d, m)
			if r.IntN(4) > 0 {
				all = append(all, m)
			} else {
				spoilt = append(spoilt, id)
				ok(t, d.Spoil("s"+id, r.IntN(10), 0xff))
			}
		}
		lists(t, "all", d, all, spoilt...)
	}
}

// P19.2: of a dead disk nothing is told.
func TestListDead(t *testing.T) {
	for _, m := range [][]Manifest{nil, {plain()}, {plain(), full()}} {
		d := fresh(t, 10000)
		var spoilt []string
		for i, one := range m {
			id := published(t, d, one)
			if i == 1 {
				ok(t, d.Spoil("s"+id, 0, 0))
				spoilt = append(spoilt, id)
			}
		}
		dead(t, d)
		if l, bad, e := List(d); e != api.ErrDead || len(l) != 0 || len(bad) != 0 {
			t.Errorf("%v, %v, %d", l, bad, e)
		}
		d.Crash()
		lists(t, "alive", d, m[:min(len(m), 1)], spoilt...)
	}
}

// three: a disk with three manifests, one of them spoilt, and other files; and the manifests' names.
func three(t *testing.T) (*disk.Disk, []string) {
	t.Helper()
	d := fresh(t, 10000)
	lay(t, d, "log", "beside")
	ids := []string{published(t, d, plain()), published(t, d, full()), published(t, d, Manifest{Time: 9, Size: 2, Chunks: chunks(2)})}
	lay(t, d, "p"+ids[0], "pack")
	lay(t, d, ids[0], "beside")
	ok(t, d.Spoil("s"+ids[2], 0, 0))
	return d, ids
}

// left: the disk of three has just those of these manifests that are named, and the other files.
func left(t *testing.T, what string, d *disk.Disk, ids []string, want ...string) {
	t.Helper()
	files := []string{"log", "p" + ids[0], ids[0]}
	for _, id := range want {
		files = append(files, "s"+id)
	}
	slices.Sort(files)
	if names, e := d.List(); e != api.OK || !slices.Equal(names, files) {
		t.Fatalf("%s: %v, %d, not %v", what, names, e, files)
	}
}

// P19.2: those that are there are gone, safely, also spoilt ones; those that aren't are no error.
func TestRemove(t *testing.T) {
	absent := strings.Repeat("0", 64)
	for _, c := range []struct {
		what string
		gone func(ids []string) []string
		left []int
	}{
		{"none", func([]string) []string { return nil }, []int{0, 1, 2}},
		{"one", func(ids []string) []string { return ids[1:2] }, []int{0, 2}},
		{"a spoilt one", func(ids []string) []string { return ids[2:] }, []int{0, 1}},
		{"all", func(ids []string) []string { return ids }, nil},
		{"backwards", func(ids []string) []string { return []string{ids[2], ids[1], ids[0]} }, nil},
		{"twice", func(ids []string) []string { return []string{ids[0], ids[0], ids[1], ids[0]} }, []int{2}},
		{"one that isn't there", func([]string) []string { return []string{absent} }, []int{0, 1, 2}},
		{"among those that aren't", func(ids []string) []string { return []string{absent, ids[0], absent} }, []int{1, 2}},
		{"no names", func(ids []string) []string {
			return []string{"", "q", "/", "\x00", "s" + ids[1], ids[1] + "0", ids[2][1:], ids[0]}
		}, []int{1, 2}},
		{"long ones", func(ids []string) []string { return []string{strings.Repeat("x", 1000), ids[0]} }, []int{1, 2}},
	} {
		d, ids := three(t)
		var want []string
		for _, i := range c.left {
			want = append(want, ids[i])
		}
		ok(t, Remove(d, c.gone(ids)))
		left(t, c.what, d, ids, want...)
		d.Crash()
		left(t, c.what+", behind a crash", d, ids, want...)
		ok(t, Remove(d, c.gone(ids)))
		left(t, c.what+", again", d, ids, want...)
	}
}

// P19.2: the folder is settled, whatever was removed.
func TestRemoveSettles(t *testing.T) {
	for _, gone := range [][]string{nil, {strings.Repeat("0", 64)}, {sha(row(plain()))}} {
		d := fresh(t, 1000)
		published(t, d, plain())
		ok(t, d.Append("a", "x"), Remove(d, gone))
		d.Crash()
		if s, e := d.Read("a"); e != api.OK || s != "" {
			t.Errorf("%v: %q, %d", gone, s, e)
		}
	}
}

// P19.2: no room is needed.
func TestRemoveFull(t *testing.T) {
	d := fresh(t, len(row(plain())))
	id := published(t, d, plain())
	ok(t, Remove(d, []string{id}))
	lists(t, "gone", d, nil)
}

// P19.2: a disk that dies is told at once: nothing behind that is done.
func TestRemoveDead(t *testing.T) {
	r := dice()
	for n := range 5 {
		for range 200 {
			d, ids := three(t)
			d.Arm(n)
			want := api.ErrDead
			if n == 4 {
				want = api.OK
			}
			is(t, fmt.Sprint("dying behind ", n), Remove(d, ids), want)
			var keeps []int
			for range 1 + r.IntN(4) {
				keeps = append(keeps, r.IntN(2))
			}
			d.Crash(keeps...)
			// Of the removals that were done a crash leaves those that keeps says, until all are settled.
			var stay []string
			for i, id := range ids {
				if n < 4 && (i >= n || keeps[i%len(keeps)] == 0) {
					stay = append(stay, id)
				}
			}
			left(t, fmt.Sprint("dying behind ", n, ", keeps ", keeps), d, ids, stay...)
			ok(t, Remove(d, ids))
			left(t, "again", d, ids)
		}
	}
	d, ids := three(t)
	dead(t, d)
	is(t, "dead", Remove(d, ids), api.ErrDead)
	is(t, "dead, none", Remove(d, nil), api.ErrDead)
	is(t, "dead, no name", Remove(d, []string{"q"}), api.ErrDead)
	d.Crash(1)
	left(t, "dead", d, ids, ids...)
}

// P19.2, P5: wherever the disk dies while a manifest is published, and whatever a crash keeps, it is there as a whole, or not at all.
func TestPublishCrashes(t *testing.T) {
	r := dice()
	n := 0
	for ended := false; !ended; n++ {
		for range 300 {
			d := fresh(t, 10000)
			published(t, d, plain())
			d.Arm(n)
			id, e := Publish(d, full())
			if ended = e == api.OK; !ended && (e != api.ErrDead || id != "") {
				t.Fatalf("dying behind %d: %q, %d", n, id, e)
			}
			var keeps []int
			for range r.IntN(8) {
				keeps = append(keeps, r.IntN(400)-100)
			}
			d.Crash(keeps...)
			l, spoilt, e := List(d)
			if e != api.OK || len(spoilt) != 0 || len(l) < 1 || ended && len(l) != 2 {
				t.Fatalf("dying behind %d, keeps %v: %v, %v, %d", n, keeps, l, spoilt, e)
			}
			lists(t, "behind a crash", d, []Manifest{plain(), full()}[:len(l)])
			ok(t, packs.Scavenge(d))
			published(t, d, full())
			lists(t, "again", d, []Manifest{plain(), full()})
		}
		if n > 50 {
			t.Fatal("no end")
		}
	}
	if n < 4 {
		t.Errorf("safe behind %d calls", n)
	}
}

// P19.2: any calls, by dice, against a plain table.
func TestDice(t *testing.T) {
	r := dice()
	for range 30 {
		d := fresh(t, 1000000)
		table := map[string]Manifest{}
		var ids []string
		for range 60 {
			switch r.IntN(5) {
			case 0, 1:
				m := some(r)
				id := published(t, d, m)
				table[id] = m
				ids = append(ids, id)
			case 2:
				var gone []string
				for range r.IntN(4) {
					if len(ids) > 0 {
						gone = append(gone, ids[r.IntN(len(ids))])
					}
				}
				ok(t, Remove(d, gone))
				for _, id := range gone {
					delete(table, id)
				}
			case 3:
				d.Crash(r.IntN(100), r.IntN(100))
			}
			var all []Manifest
			for _, m := range table {
				all = append(all, m)
			}
			lists(t, "all", d, all)
			for _, id := range ids {
				if m, there := table[id]; there {
					loads(t, "there", d, id, m)
				} else {
					refuses(t, "gone", d, id, api.ErrAbsent)
				}
			}
		}
	}
}

// K3: what is handed in isn't changed, nor the room behind it, nor is it kept; reads change nothing on the disk.
func TestHandedIn(t *testing.T) {
	d := fresh(t, 10000)
	room := []string{sum("a"), sum("b"), sum("a"), "behind", "behind"}
	was := slices.Clone(room)
	m := full()
	m.Chunks = room[:3]
	is(t, "Check", Check(m), api.OK)
	s, _ := Encode(m)
	id := published(t, d, m)
	before := told(d)
	List(d)
	Load(d, id)
	Load(d, "x")
	if told(d) != before {
		t.Error("a read has changed the disk")
	}
	ids := []string{"z", id, "a", "behind"}
	ok(t, Remove(d, ids[:3]))
	if !slices.Equal(room, was) || !slices.Equal(ids, []string{"z", id, "a", "behind"}) {
		t.Error(room, ids)
	}
	published(t, d, m)
	clear(room)
	loads(t, "not kept", d, id, full())
	if s != row(full()) {
		t.Error("not kept")
	}
}

// K3: answers are new memory.
func TestNewMemory(t *testing.T) {
	d := fresh(t, 10000)
	id := published(t, d, full())
	lay(t, d, "s"+sha("x"), "y")
	s := row(full())
	one, _ := Decode(s)
	_ = append(one.Chunks, "behind")
	clear(one.Chunks)
	if two, _ := Decode(s); !same(two, full()) {
		t.Error("Decode")
	}
	loaded, _ := Load(d, id)
	clear(loaded.Chunks)
	loads(t, "again", d, id, full())
	loaded, _ = Load(d, id)
	snaps, spoilt, _ := List(d)
	kept, bad := slices.Clone(snaps), slices.Clone(spoilt)
	clear(snaps)
	clear(spoilt)
	lists(t, "again", d, []Manifest{full()}, sha("x"))
	ok(t, d.Spoil("s"+id, 20, 0), Remove(d, []string{id, sha("x")}))
	if !same(loaded, full()) || kept[0] != (api.Snap{Id: id, Time: full().Time, Tag: full().Tag}) || bad[0] != sha("x") {
		t.Error("what was answered has changed")
	}
}

// K4: the same calls have the same answers.
func TestSame(t *testing.T) {
	d := fresh(t, 100000)
	for i := range 30 {
		id := published(t, d, Manifest{Time: i % 3, Size: i + 1, Chunks: chunks(1)})
		if i%5 == 0 {
			ok(t, d.Spoil("s"+id, 0, 0))
		}
	}
	first, bad, _ := List(d)
	for range 20 {
		if l, b, e := List(d); e != api.OK || !slices.Equal(l, first) || !slices.Equal(b, bad) {
			t.Fatal(l, b, e)
		}
	}
}
