package store

import (
	"crypto/sha256"
	"fmt"
	"maps"
	"math"
	"math/rand/v2"
	"slices"
	"strings"
	"testing"

	"cellarer/api"
	"cellarer/disk"
	"cellarer/index"
	"cellarer/packs"
	"cellarer/zipfmt"
)

// dice: the same numbers in every run.
func dice() *rand.Rand {
	return rand.New(rand.NewPCG(27, 18))
}

// sha: a name of bytes, by the library.
func sha(s string) string {
	return fmt.Sprintf("%x", sha256.Sum256([]byte(s)))
}

// numbered: so many unlike chunks of so many bytes.
func numbered(n, size int) []string {
	var out []string
	for i := range n {
		out = append(out, fmt.Sprintf("%04d", i)+strings.Repeat("x", size-4))
	}
	return out
}

// fresh: an empty disk of that room.
func fresh(t *testing.T, room int) *disk.Disk {
	t.Helper()
	d, e := disk.New(room)
	if e != api.OK {
		t.Fatalf("disk: %d", e)
	}
	return d
}

// opened: the store of a disk, which must have one.
func opened(t *testing.T, d *disk.Disk) *Store {
	t.Helper()
	s, e := Open(d, 6)
	if e != api.OK {
		t.Fatalf("Open: %d", e)
	}
	return s
}

// ok: calls that are to be answered by OK.
func ok(t *testing.T, all ...api.Errno) {
	t.Helper()
	for i, e := range all {
		if e != api.OK {
			t.Fatalf("call %d: %d", i, e)
		}
	}
}

// is: a call that is to be answered by want.
func is(t *testing.T, what string, got, want api.Errno) {
	t.Helper()
	if got != want {
		t.Errorf("%s: %d, not %d", what, got, want)
	}
}

// put: chunks that are to be new.
func put(t *testing.T, s *Store, chunks ...string) {
	t.Helper()
	for _, c := range chunks {
		if name, fresh, e := s.Put(c); name != sha(c) || !fresh || e != api.OK {
			t.Fatalf("Put(%.20q): %s, %v, %d", c, name, fresh, e)
		}
	}
}

// known: chunks that are to be there already.
func known(t *testing.T, s *Store, chunks ...string) {
	t.Helper()
	for _, c := range chunks {
		if name, fresh, e := s.Put(c); name != sha(c) || fresh || e != api.OK {
			t.Fatalf("Put(%.20q): %s, %v, %d", c, name, fresh, e)
		}
	}
}

// gets: chunks that are to be got.
func gets(t *testing.T, what string, s *Store, chunks ...string) {
	t.Helper()
	for _, c := range chunks {
		if got, e := s.Get(sha(c)); got != c || e != api.OK || !s.Has(sha(c)) {
			t.Fatalf("%s: %.20q: %.20q, %d, %v", what, c, got, e, s.Has(sha(c)))
		}
	}
}

// refuses: a name that isn't got.
func refuses(t *testing.T, what string, s *Store, name string, want api.Errno) {
	t.Helper()
	if got, e := s.Get(name); got != "" || e != want {
		t.Errorf("%s: %.20q, %d, not %d", what, got, e, want)
	}
}

// lacks: chunks that are not there.
func lacks(t *testing.T, what string, s *Store, chunks ...string) {
	t.Helper()
	for _, c := range chunks {
		refuses(t, what, s, sha(c), api.ErrAbsent)
		if s.Has(sha(c)) {
			t.Errorf("%s: has %.20q", what, c)
		}
	}
}

// packed: a disk's packs are just these, each with its chunks.
func packed(t *testing.T, what string, d *disk.Disk, level int, want ...[]string) {
	t.Helper()
	all := map[string]string{}
	for _, chunks := range want {
		name, s, e := packs.Build(chunks, level)
		ok(t, e)
		all[name] = s
	}
	names, e := packs.Names(d, "p")
	ok(t, e)
	if sorted := slices.Sorted(maps.Keys(all)); !slices.Equal(names, sorted) {
		t.Fatalf("%s: packs %q, not %q", what, names, sorted)
	}
	for _, name := range names {
		if s, _ := d.Read(name); s != all[name] {
			t.Fatalf("%s: %s has other bytes", what, name)
		}
	}
}

// dead: a disk that has died.
func dead(t *testing.T, d *disk.Disk) {
	t.Helper()
	d.Arm(0)
	is(t, "dies", d.Settle(), api.ErrDead)
}

// told: all files of a disk.
func told(d *disk.Disk) string {
	names, _ := d.List()
	out := ""
	for _, name := range names {
		s, _ := d.Read(name)
		out += fmt.Sprintf("%q %q ", name, s)
	}
	return out
}

// P18.1, P18.2: the chapter's example.
func TestExample(t *testing.T) {
	d := fresh(t, 100000)
	s := opened(t, d)
	put(t, s, "a")
	known(t, s, "a")
	gets(t, "waiting", s, "a")
	s.Drop()
	lacks(t, "dropped", s, "a")
	put(t, s, "a")
	ok(t, s.Flush())
	d.Crash()
	s = opened(t, d)
	gets(t, "opened anew", s, "a")
	pack, there := s.Place(sha("a"))
	if !there {
		t.Fatal("no place")
	}
	ok(t, d.Spoil(pack, 40, 0))
	refuses(t, "spoilt", s, sha("a"), api.ErrLoss)
	s = opened(t, d)
	lacks(t, "spoilt and opened anew", s, "a")
	if !slices.Equal(s.Bad(), []string{pack}) {
		t.Errorf("%q", s.Bad())
	}
}

// P18.1: levels, and a disk that is dead.
func TestOpenErrors(t *testing.T) {
	d := fresh(t, 100)
	for level := -2; level < 13; level++ {
		s, e := Open(d, level)
		want := api.OK
		if level < 0 || level > 9 {
			want = api.ErrArg
		}
		if e != want || (s == nil) != (e != api.OK) {
			t.Errorf("level %d: %d", level, e)
		}
	}
	dead(t, d)
	for level, want := range map[int]api.Errno{math.MinInt: api.ErrArg, -1: api.ErrArg, 10: api.ErrArg, math.MaxInt: api.ErrArg, 0: api.ErrDead, 9: api.ErrDead} {
		if s, e := Open(d, level); s != nil || e != want {
			t.Errorf("dead, level %d: %d, not %d", level, e, want)
		}
	}
}

// P18.1: a store of nothing.
func TestEmpty(t *testing.T) {
	d := fresh(t, 0)
	s := opened(t, d)
	if len(s.Bad()) != 0 || len(s.Names()) != 0 {
		t.Errorf("%q, %q", s.Bad(), s.Names())
	}
	for _, name := range []string{"", "a", sha("a"), sha(""), "p" + sha("a")} {
		refuses(t, name, s, name, api.ErrAbsent)
		if pack, there := s.Place(name); pack != "" || there || s.Has(name) {
			t.Errorf("%q: %q, %v", name, pack, there)
		}
	}
	s.Drop()
	ok(t, s.Flush())
	if names, _ := d.List(); len(names) != 0 {
		t.Errorf("%q", names)
	}
}

// P18.1: a chunk's bounds; what is refused doesn't wait.
func TestPutErrors(t *testing.T) {
	d := fresh(t, 100000)
	s := opened(t, d)
	most := strings.Repeat("\x00", 4096)
	for _, c := range []struct {
		chunk string
		want  api.Errno
	}{{"", api.ErrForm}, {most + "x", api.ErrBig}, {strings.Repeat("x", 1<<20), api.ErrBig}} {
		for range 2 {
			if name, fresh, e := s.Put(c.chunk); name != "" || fresh || e != c.want {
				t.Errorf("%d bytes: %q, %v, %d", len(c.chunk), name, fresh, e)
			}
			lacks(t, "refused", s, c.chunk)
		}
	}
	ok(t, s.Flush())
	packed(t, "nothing waits", d, 6)
	put(t, s, most, most[1:], "x", "\x00")
	ok(t, s.Flush())
	gets(t, "the most and the least", opened(t, d), most, most[1:], "x", "\x00")
}

// P18.1, P18.2: at each stage a chunk is where the chapter says.
func TestStages(t *testing.T) {
	d := fresh(t, 100000)
	s := opened(t, d)
	stage := func(what string, names []string, place string) {
		t.Helper()
		pack, there := s.Place(sha("a"))
		if !slices.Equal(s.Names(), names) || pack != place || there != (place != "") {
			t.Errorf("%s: %q, %q, %v", what, s.Names(), pack, there)
		}
	}
	stage("nothing", nil, "")
	put(t, s, "a", "b")
	stage("waiting", nil, "")
	packed(t, "waiting", d, 6)
	name, _, _ := packs.Build([]string{"a", "b"}, 6)
	both := []string{sha("a"), sha("b")}
	slices.Sort(both)
	ok(t, s.Flush())
	for range 2 {
		stage("flushed", both, name)
		known(t, s, "a", "b")
		gets(t, "flushed", s, "a", "b")
		packed(t, "flushed", d, 6, []string{"b", "a"})
		s.Drop()
		stage("nothing to drop", both, name)
		s = opened(t, d)
	}
	put(t, s, "c")
	stage("another waits", both, name)
	s.Drop()
	lacks(t, "dropped", s, "c")
	ok(t, s.Flush())
	packed(t, "dropped", d, 6, []string{"a", "b"})
}

// P18.2: a pack of the store's level, which is Build's, in whatever order chunks were put.
func TestFlushLevels(t *testing.T) {
	r := dice()
	chunks := numbered(40, 300)
	for level := range 10 {
		d := fresh(t, 100000)
		s, e := Open(d, level)
		ok(t, e)
		r.Shuffle(len(chunks), func(i, j int) { chunks[i], chunks[j] = chunks[j], chunks[i] })
		put(t, s, chunks...)
		known(t, s, chunks[:10]...)
		ok(t, s.Flush())
		packed(t, fmt.Sprint("level ", level), d, level, chunks)
		gets(t, fmt.Sprint("level ", level), s, chunks...)
	}
}

// P18.2: where nothing waits nothing is done, not even on a disk that would die or has.
func TestFlushNothing(t *testing.T) {
	d := fresh(t, 1000)
	s := opened(t, d)
	ok(t, d.Append("tmp", "left"))
	before := told(d)
	d.Arm(0)
	ok(t, s.Flush())
	put(t, s, "a")
	s.Drop()
	ok(t, s.Flush())
	if _, e := d.Read("tmp"); e != api.OK || told(d) != before {
		t.Error("something was done")
	}
	d.Arm(-1)
	put(t, s, "a")
	ok(t, s.Flush())
	before = told(d)
	d.Arm(0)
	ok(t, s.Flush())
	dead(t, d)
	ok(t, s.Flush())
	d.Crash()
	if told(d) != before {
		t.Error("something was done")
	}
}

// P18.2: what would wait beyond the bounds is flushed ahead of it, and not sooner.
func TestPending(t *testing.T) {
	if MaxPending != 150 {
		t.Fatal(MaxPending)
	}
	join := func(l []string, more ...string) []string { return append(slices.Clone(l), more...) }
	big, small := numbered(32, 4096), numbered(150, 20)
	for _, c := range []struct {
		what  string
		first []string // these wait, as many as may
		next  string
	}{
		{"150", small, "a"},
		{"131072 bytes", big, "a"},
		{"131071 bytes", join(big[:31], big[31][:4095]), "ab"},
		{"131072 bytes, one a byte", join(big[:31], big[31][:4095], "b"), "a"},
		{"126977 bytes", join(big[:30], big[30], "b"), strings.Repeat("x", 4096)},
		{"150 of 873", numbered(150, 873), "a"},
	} {
		d := fresh(t, 1<<20)
		s := opened(t, d)
		put(t, s, c.first...)
		known(t, s, c.first...)
		packed(t, c.what, d, 6)
		// What needs no room needs no flushing: neither a chunk that is there nor one that is refused.
		s.Put("")
		s.Put(strings.Repeat("x", 4097))
		packed(t, c.what, d, 6)
		put(t, s, c.next)
		packed(t, c.what, d, 6, c.first)
		if _, there := s.Place(sha(c.next)); there || len(s.Names()) != len(c.first) {
			t.Errorf("%s: %d names", c.what, len(s.Names()))
		}
		known(t, s, join(c.first, c.next)...)
		gets(t, c.what, s, join(c.first, c.next)...)
		ok(t, s.Flush())
		packed(t, c.what, d, 6, c.first, []string{c.next})
	}
}

// P18.2: behind a flush, or a drop, all of the room is there again.
func TestPendingAnew(t *testing.T) {
	d := fresh(t, 1<<20)
	s := opened(t, d)
	all := numbered(450, 20)
	put(t, s, all[:149]...)
	s.Drop()
	put(t, s, all[:100]...)
	ok(t, s.Flush())
	put(t, s, all[100:250]...)
	packed(t, "100", d, 6, all[:100])
	put(t, s, all[250:400]...)
	packed(t, "250", d, 6, all[:100], all[100:250])
	put(t, s, all[400])
	packed(t, "400", d, 6, all[:100], all[100:250], all[250:400])
	big := numbered(32, 4096)
	s.Drop()
	put(t, s, big[:31]...)
	s.Drop()
	put(t, s, big...)
	packed(t, "big ones", d, 6, all[:100], all[100:250], all[250:400])
}

// P18.2: a full disk: what waits goes on waiting, and is flushed when there is room.
func TestFlushSpace(t *testing.T) {
	d := fresh(t, 2000)
	ok(t, d.Append("other", strings.Repeat("o", 1900)), d.Sync("other"), d.Settle())
	s := opened(t, d)
	put(t, s, "a", "b")
	before := told(d)
	for range 3 {
		is(t, "full", s.Flush(), api.ErrSpace)
		gets(t, "full", s, "a", "b")
		known(t, s, "a", "b")
		if told(d) != before || len(s.Names()) != 0 {
			t.Fatal("something has changed")
		}
	}
	ok(t, d.Remove("other"), d.Settle(), s.Flush())
	packed(t, "room", d, 6, []string{"a", "b"})
	gets(t, "room", s, "a", "b")
}

// P18.2: to the very byte.
func TestFlushRoom(t *testing.T) {
	_, body, _ := packs.Build([]string{"a", "b"}, 6)
	for room, want := range map[int]api.Errno{len(body): api.OK, len(body) - 1: api.ErrSpace} {
		s := opened(t, fresh(t, room))
		put(t, s, "b", "a")
		is(t, fmt.Sprint("room ", room), s.Flush(), want)
	}
}

// P18.2: the error of a flush that goes ahead is Put's; the chunk doesn't wait, the others do.
func TestPutSpace(t *testing.T) {
	for _, want := range []api.Errno{api.ErrSpace, api.ErrDead} {
		room := 1000
		if want == api.ErrDead {
			room = 100000
		}
		d := fresh(t, room)
		s := opened(t, d)
		chunks := numbered(150, 20)
		put(t, s, chunks...)
		if want == api.ErrDead {
			dead(t, d)
		}
		for range 2 {
			if name, fresh, e := s.Put("a"); name != "" || fresh || e != want {
				t.Errorf("%q, %v, %d, not %d", name, fresh, e, want)
			}
			lacks(t, "it doesn't wait", s, "a")
			gets(t, "the others do", s, chunks...)
			known(t, s, chunks...)
			is(t, "Flush", s.Flush(), want)
		}
		s.Drop()
		lacks(t, "dropped", s, chunks...)
		put(t, s, "a")
	}
}

// P18.3: Get's errors, and which goes ahead.
func TestGetErrors(t *testing.T) {
	d := fresh(t, 100000)
	s := opened(t, d)
	put(t, s, "a")
	ok(t, s.Flush())
	put(t, s, "b")
	dead(t, d)
	gets(t, "what waits needs no disk", s, "b")
	refuses(t, "kept", s, sha("a"), api.ErrDead)
	refuses(t, "absent", s, sha("c"), api.ErrAbsent)
	refuses(t, "no name", s, "a", api.ErrAbsent)
	refuses(t, "nothing", s, "", api.ErrAbsent)
	if !s.Has(sha("a")) || !s.Has(sha("b")) || s.Has(sha("c")) {
		t.Error("Has asks no disk")
	}
	known(t, s, "a", "b")
	put(t, s, "d")
}

// P18.3: a pack that is gone, cut, longer, or another one.
func TestGetLoss(t *testing.T) {
	for what, spoil := range map[string]func(d *disk.Disk, pack string) []api.Errno{
		"gone":   func(d *disk.Disk, pack string) []api.Errno { return []api.Errno{d.Remove(pack)} },
		"longer": func(d *disk.Disk, pack string) []api.Errno { return []api.Errno{d.Append(pack, "x")} },
		"empty":  func(d *disk.Disk, pack string) []api.Errno { return []api.Errno{d.Remove(pack), d.Append(pack, "")} },
		"other": func(d *disk.Disk, pack string) []api.Errno {
			_, body, e := packs.Build([]string{"b"}, 6)
			return []api.Errno{e, packs.Publish(d, pack, body)}
		},
		"of another level": func(d *disk.Disk, pack string) []api.Errno {
			_, body, e := packs.Build([]string{"a", strings.Repeat("bc", 300)}, 0)
			return []api.Errno{e, packs.Publish(d, pack, body)}
		},
	} {
		d := fresh(t, 100000)
		s := opened(t, d)
		put(t, s, "a", strings.Repeat("bc", 300))
		ok(t, s.Flush())
		pack, _ := s.Place(sha("a"))
		ok(t, spoil(d, pack)...)
		refuses(t, what, s, sha("a"), api.ErrLoss)
		known(t, s, "a")
		if at, there := s.Place(sha("a")); at != pack || !there || len(s.Bad()) != 0 {
			t.Errorf("%s: the store says what it was opened of: %q, %q", what, at, s.Bad())
		}
	}
}

// P18.3: an archive under its own name that has other bytes than its heads say.
func TestGetNotCalledSo(t *testing.T) {
	d := fresh(t, 100000)
	lay := func(s string) { ok(t, packs.Publish(d, "p"+sha(s), s)) }
	other, e := zipfmt.Write([]zipfmt.File{{Name: sha("b"), Data: "a"}}, 6)
	ok(t, e)
	lay(other)
	lay(zipfmt.Index([]zipfmt.Head{{Name: sha("c"), Size: 1, Packed: 1}}, 0))
	s := opened(t, d)
	if len(s.Bad()) != 0 || len(s.Names()) != 2 {
		t.Fatalf("%q, %q", s.Bad(), s.Names())
	}
	for _, c := range []string{"b", "c"} {
		if !s.Has(sha(c)) {
			t.Errorf("has no %q", c)
		}
		refuses(t, c, s, sha(c), api.ErrLoss)
		known(t, s, c)
	}
	lacks(t, "what isn't called so", s, "a")
}

// P18.3, P4: whatever byte is spoilt.
func TestSpoilt(t *testing.T) {
	d := fresh(t, 100000)
	s := opened(t, d)
	chunks := []string{"a", strings.Repeat("bc", 300), "other"}
	put(t, s, chunks[:2]...)
	ok(t, s.Flush())
	put(t, s, chunks[2])
	ok(t, s.Flush())
	pack, _ := s.Place(sha("a"))
	body, _ := d.Read(pack)
	for at := range len(body) {
		ok(t, d.Spoil(pack, at, body[at]^byte(1<<(at%8))))
		anew := opened(t, d)
		for _, c := range chunks[:2] {
			refuses(t, "spoilt", s, sha(c), api.ErrLoss)
		}
		lacks(t, "spoilt, anew", anew, chunks[:2]...)
		gets(t, "another pack", s, chunks[2])
		gets(t, "another pack, anew", anew, chunks[2])
		if !slices.Equal(anew.Bad(), []string{pack}) || len(s.Bad()) != 0 || !slices.Equal(anew.Names(), []string{sha("other")}) {
			t.Fatalf("byte %d: %q, %q", at, anew.Bad(), anew.Names())
		}
		ok(t, d.Spoil(pack, at, body[at]))
		gets(t, "mended", s, chunks...)
	}
}

// P18.1, P18.2: chunks of a spoilt pack are put anew, and the same pack is sound again.
func TestPutSpoilt(t *testing.T) {
	d := fresh(t, 100000)
	s := opened(t, d)
	put(t, s, "a", "b")
	ok(t, s.Flush())
	pack, _ := s.Place(sha("a"))
	ok(t, d.Spoil(pack, 50, 0))
	s = opened(t, d)
	put(t, s, "b", "a")
	ok(t, s.Flush())
	gets(t, "sound", s, "a", "b")
	packed(t, "sound", d, 6, []string{"a", "b"})
	if !slices.Equal(s.Bad(), []string{pack}) {
		t.Errorf("Bad says what was spoilt when it was opened: %q", s.Bad())
	}
	d.Crash()
	s = opened(t, d)
	gets(t, "behind a crash", s, "a", "b")
	if len(s.Bad()) != 0 {
		t.Errorf("%q", s.Bad())
	}
	// Another pack stands beside one that stays spoilt.
	ok(t, d.Spoil(pack, 50, 0))
	s = opened(t, d)
	put(t, s, "a")
	ok(t, s.Flush())
	s = opened(t, d)
	gets(t, "beside it", s, "a")
	lacks(t, "beside it", s, "b")
	if at, _ := s.Place(sha("a")); at == pack || !slices.Equal(s.Bad(), []string{pack}) {
		t.Errorf("%q, %q", at, s.Bad())
	}
}

// P18.1: of a chunk in two packs the place is the index's.
func TestPlace(t *testing.T) {
	d := fresh(t, 100000)
	for _, chunks := range [][]string{{"a", "b"}, {"b", "c"}, {"c", "d", "a"}} {
		name, body, e := packs.Build(chunks, 6)
		ok(t, e, packs.Publish(d, name, body))
	}
	x, _, e := index.Of(d)
	ok(t, e)
	s := opened(t, d)
	if !slices.Equal(s.Names(), x.Names()) || len(x.Names()) != 4 {
		t.Errorf("%q", s.Names())
	}
	for _, c := range []string{"a", "b", "c", "d"} {
		want, _ := x.Find(sha(c))
		if pack, there := s.Place(sha(c)); !there || pack != want.Pack {
			t.Errorf("%s: %q, not %q", c, pack, want.Pack)
		}
	}
	gets(t, "all", s, "a", "b", "c", "d")
	// The place that counts is asked, and no other.
	pack, _ := s.Place(sha("b"))
	ok(t, d.Spoil(pack, 0, 0))
	refuses(t, "spoilt", s, sha("b"), api.ErrLoss)
	gets(t, "opened anew", opened(t, d), "b")
}

// someKeeps: numbers by dice, or none.
func someKeeps(r *rand.Rand) []int {
	var out []int
	for range r.IntN(8) {
		out = append(out, r.IntN(80)-10)
	}
	return out
}

// once: the disk's sound packs have each chunk once, and they are these.
func once(t *testing.T, what string, d *disk.Disk, chunks ...string) {
	t.Helper()
	var got, want []string
	names, e := packs.Names(d, "p")
	ok(t, e)
	for _, name := range names {
		s, e := d.Read(name)
		ok(t, e)
		heads, e := packs.Heads(s)
		ok(t, e)
		for _, h := range heads {
			got = append(got, h.Name)
		}
	}
	for _, c := range chunks {
		want = append(want, sha(c))
	}
	slices.Sort(got)
	slices.Sort(want)
	if !slices.Equal(got, want) {
		t.Fatalf("%s: %d chunks, not %d", what, len(got), len(want))
	}
}

// scene: a store in which something waits, and a call that flushes it.
type scene struct {
	what  string
	waits []string
	call  func(s *Store) api.Errno
}

// dies: a scene on a disk that dies behind n calls, and crashes; is its call answered by OK?
func dies(t *testing.T, r *rand.Rand, c scene, left bool, n int) bool {
	t.Helper()
	d := fresh(t, 100000)
	s := opened(t, d)
	kept := []string{"kept", strings.Repeat("also kept", 20)}
	put(t, s, kept...)
	ok(t, s.Flush())
	if left {
		ok(t, d.Append("tmp", strings.Repeat("left", 30)), d.Sync("tmp"), d.Settle())
	}
	put(t, s, c.waits...)
	d.Arm(n)
	e := c.call(s)
	if e != api.OK && e != api.ErrDead {
		t.Fatalf("%s: %d", c.what, e)
	}
	if e == api.ErrDead {
		gets(t, "it still waits", s, c.waits...)
	}
	keeps := someKeeps(r)
	what := fmt.Sprint(c.what, ", dying behind ", n, ", keeps ", keeps)
	d.Crash(keeps...)
	s = opened(t, d)
	gets(t, what, s, kept...)
	there := s.Has(sha(c.waits[0]))
	if e == api.OK && !there {
		t.Fatalf("%s: answered by OK, and lost", what)
	}
	for _, chunk := range c.waits {
		if there {
			gets(t, what, s, chunk)
			known(t, s, chunk)
		} else {
			lacks(t, what, s, chunk)
			put(t, s, chunk)
		}
	}
	ok(t, s.Flush())
	d.Crash()
	s = opened(t, d)
	gets(t, what, s, kept...)
	gets(t, what, s, c.waits...)
	once(t, what, d, append(kept, c.waits...)...)
	if len(s.Bad()) != 0 {
		t.Fatalf("%s: %q", what, s.Bad())
	}
	return e == api.OK
}

// P18.4, P18.1, P5: wherever the disk dies, and whatever a crash keeps: what was flushed is there, and of a flush that died all or nothing.
func TestCrashes(t *testing.T) {
	r := dice()
	flush := func(s *Store) api.Errno { return s.Flush() }
	more := func(s *Store) api.Errno {
		_, _, e := s.Put("one more")
		return e
	}
	for _, c := range []struct {
		scene
		times int
	}{
		{scene{"one", []string{"a"}, flush}, 150},
		{scene{"some", []string{"a", "b", strings.Repeat("cde", 400)}, flush}, 100},
		{scene{"a flush that goes ahead", numbered(150, 6), more}, 2},
	} {
		for _, left := range []bool{false, true} {
			n := 0
			for ended := false; !ended; n++ {
				for range c.times {
					ended = dies(t, r, c.scene, left, n)
				}
				if n > 50 {
					t.Fatalf("%s: no end", c.what)
				}
			}
			if n < 4 {
				t.Errorf("%s: safe behind %d calls", c.what, n)
			}
		}
	}
}

// table is a store played with dice, and what it must say.
type table struct {
	dice    *rand.Rand
	disk    *disk.Disk
	store   *Store
	waiting map[string]string // chunks by their names
	kept    map[string]string
	seen    map[string]int
}

// put: the answer hangs on what is there alone, but where a flush goes ahead. Is it OK?
func (p *table) put(t *testing.T, chunk string) bool {
	name := sha(chunk)
	_, waits := p.waiting[name]
	_, kept := p.kept[name]
	bytes := len(chunk)
	for _, c := range p.waiting {
		bytes += len(c)
	}
	flushes := !waits && !kept && (bytes > 131072 || len(p.waiting) == 150)
	got, fresh, e := p.store.Put(chunk)
	p.seen[fmt.Sprint("Put ", e, " new ", fresh, " flushes ", flushes)]++
	if flushes {
		p.flushed(t, e)
	} else {
		ok(t, e)
	}
	if e != api.OK {
		if got != "" || fresh {
			t.Fatalf("Put: %q, %v, %d", got, fresh, e)
		}
		return false
	}
	if got != name || fresh == (waits || kept) {
		t.Fatalf("Put: %q, %v", got, fresh)
	}
	if fresh {
		p.waiting[name] = chunk
	}
	return true
}

// flushed: what a flush that was answered so has done.
func (p *table) flushed(t *testing.T, e api.Errno) {
	switch e {
	case api.OK:
		maps.Copy(p.kept, p.waiting)
		clear(p.waiting)
	case api.ErrDead:
		p.crash(t, true)
	case api.ErrSpace:
		if len(p.waiting) == 0 {
			t.Fatal("no room for nothing")
		}
	default:
		t.Fatalf("Flush: %d", e)
	}
}

// crash: what was kept is there, and if a flush died, what waited as a whole, or not at all.
func (p *table) crash(t *testing.T, flushing bool) {
	p.disk.Crash(someKeeps(p.dice)...)
	p.store = opened(t, p.disk)
	if flushing && len(p.store.Names()) > len(p.kept) {
		maps.Copy(p.kept, p.waiting)
	}
	clear(p.waiting)
}

// check: all that can be asked.
func (p *table) check(t *testing.T, universe []string) {
	if got, want := p.store.Names(), slices.Sorted(maps.Keys(p.kept)); !slices.Equal(got, want) {
		t.Fatalf("%d names, not %d", len(got), len(want))
	}
	if len(p.store.Bad()) != 0 {
		t.Fatalf("%q", p.store.Bad())
	}
	for range 6 {
		c := universe[p.dice.IntN(len(universe))]
		name := sha(c)
		_, waits := p.waiting[name]
		_, kept := p.kept[name]
		if _, there := p.store.Place(name); there != kept {
			t.Fatalf("Place: %v", there)
		}
		if waits || kept {
			gets(t, "dice", p.store, c)
		} else {
			lacks(t, "dice", p.store, c)
		}
	}
}

// play: something happens, by dice.
func (p *table) play(t *testing.T, universe []string) {
	r := p.dice
	switch r.IntN(12) {
	case 0, 1, 2, 3:
		for range 1 + r.IntN(60) {
			// A full disk is asked once: each time a whole pack is made in vain.
			if !p.put(t, universe[r.IntN(len(universe))]) {
				break
			}
		}
	case 4, 5, 6:
		e := p.store.Flush()
		p.seen[fmt.Sprint("Flush ", e)]++
		p.flushed(t, e)
	case 7:
		p.store.Drop()
		clear(p.waiting)
	case 8:
		p.disk.Arm(r.IntN(10))
	case 9:
		p.crash(t, false)
	case 10:
		p.disk.Arm(-1)
		if e := p.disk.Append("tmp", strings.Repeat("l", r.IntN(300))); e == api.OK {
			p.seen["left"]++
		}
	case 11:
		p.store = opened(t, p.disk)
		clear(p.waiting)
	}
}

// P18.1, P18.2, P18.4, P2: behind any calls, on disks that die and fill.
func TestDice(t *testing.T) {
	r := dice()
	seen := map[string]int{}
	for range 100 {
		size := []int{20, 20, 20, 300, 3000}[r.IntN(5)]
		universe := numbered(40+r.IntN(400), size)
		p := &table{
			dice: r, disk: fresh(t, []int{3000, 40000, 1 << 20}[r.IntN(3)]),
			waiting: map[string]string{}, kept: map[string]string{}, seen: seen,
		}
		p.store = opened(t, p.disk)
		for range 40 {
			p.play(t, universe)
			p.check(t, universe)
		}
		once(t, "dice", p.disk, slices.Collect(maps.Values(p.kept))...)
	}
	for what, least := range map[string]int{
		"Put 0 new true flushes false": 1000, "Put 0 new false flushes false": 1000, "Put 0 new true flushes true": 20,
		"Put 9 new false flushes true": 20, "Put 10 new false flushes true": 3, "Flush 0": 100, "Flush 9": 20, "Flush 10": 50, "left": 50,
	} {
		if seen[what] < least {
			t.Errorf("%s: %d, too few to tell", what, seen[what])
		}
	}
}

// K3: answers are new memory.
func TestNewMemory(t *testing.T) {
	d := fresh(t, 100000)
	ok(t, packs.Publish(d, "p"+sha("x"), "y"), packs.Publish(d, "p"+sha("y"), "x"))
	s := opened(t, d)
	put(t, s, "a", "b")
	ok(t, s.Flush())
	for _, answer := range []func() []string{s.Bad, s.Names} {
		one, two := answer(), answer()
		want := slices.Clone(two)
		if len(want) != 2 || !slices.IsSorted(want) {
			t.Errorf("%q", want)
		}
		_ = append(one[:1], "other")
		clear(one)
		if !slices.Equal(two, want) || !slices.Equal(answer(), want) {
			t.Errorf("%q, not %q", answer(), want)
		}
	}
	names := s.Names()
	put(t, s, "c")
	ok(t, s.Flush())
	if len(names) != 2 || len(s.Names()) != 3 {
		t.Errorf("%q", names)
	}
}

// K4: no order of a map shows, neither in answers nor on the disk.
func TestSame(t *testing.T) {
	run := func() string {
		d := fresh(t, 1<<20)
		s := opened(t, d)
		put(t, s, numbered(200, 30)...)
		d.Arm(3)
		e := s.Flush()
		d.Crash(3, 1, 100)
		return fmt.Sprint(e, told(d), opened(t, d).Names())
	}
	first := run()
	for range 5 {
		if run() != first {
			t.Fatal("another answer")
		}
	}
}
