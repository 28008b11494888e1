package collect

import (
	"archive/zip"
	"crypto/sha256"
	"fmt"
	"io"
	"maps"
	"math/rand/v2"
	"slices"
	"strings"
	"testing"

	"cellarer/api"
	"cellarer/disk"
	"cellarer/manifest"
	"cellarer/node"
	"cellarer/packs"
	"cellarer/store"
	"cellarer/wal"
	"cellarer/zipfmt"
)

const room = 1 << 22

// dice: the same numbers in every run of the same seed.
func dice(seed int) *rand.Rand {
	return rand.New(rand.NewPCG(38, uint64(seed)))
}

// sum: the 32 bytes of a text's SHA-256, by the library.
func sum(s string) string {
	b := sha256.Sum256([]byte(s))
	return string(b[:])
}

// sha: a name of bytes, by the library.
func sha(s string) string {
	return fmt.Sprintf("%x", sha256.Sum256([]byte(s)))
}

// called: the names of texts, each once, rising.
func called(texts ...string) []string {
	var out []string
	for _, s := range texts {
		out = append(out, sha(s))
	}
	slices.Sort(out)
	return slices.Compact(out)
}

// numbered: so many unlike chunks of so many bytes.
func numbered(front string, n, size int) []string {
	var out []string
	for i := range n {
		s := fmt.Sprintf("%s%05d", front, i)
		out = append(out, s+strings.Repeat("x", size-len(s)))
	}
	return out
}

// ok: calls that are to be answered by OK.
func ok(t *testing.T, all ...api.Errno) {
	t.Helper()
	for i, e := range all {
		if e != api.OK {
			t.Fatalf("call %d: %d", i, e)
		}
	}
}

// is: a call that is to be answered by want.
func is(t *testing.T, what string, got, want api.Errno) {
	t.Helper()
	if got != want {
		t.Errorf("%s: %d, not %d", what, got, want)
	}
}

// blankDisk: a disk of that room with a log.
func blankDisk(t *testing.T, room int) *disk.Disk {
	t.Helper()
	d, e := disk.New(room)
	ok(t, e, wal.Format(d))
	return d
}

// opened: the log and the store of a disk.
func opened(t *testing.T, d *disk.Disk) (*wal.Log, *store.Store) {
	t.Helper()
	l, e := wal.Open(d)
	ok(t, e)
	s, e := store.Open(d, 6)
	ok(t, e)
	return l, s
}

// written: a file of these bytes, safely.
func written(t *testing.T, d *disk.Disk, name, body string) {
	t.Helper()
	ok(t, d.Append(name, body), d.Sync(name), d.Settle())
}

// packed: a pack of chunks is on the disk; its name.
func packed(t *testing.T, d *disk.Disk, level int, chunks ...string) string {
	t.Helper()
	name, body, e := packs.Build(chunks, level)
	ok(t, e, packs.Publish(d, name, body))
	return name
}

// snapped: a snapshot whose files have these chunks, each a file; the text of its nodes must be put into a pack.
func snapped(t *testing.T, d *disk.Disk, time int, chunks ...string) (string, string) {
	t.Helper()
	var l []node.Node
	for i, c := range chunks {
		l = append(l, node.Plain{At: fmt.Sprintf("f%03d", i), Time: time, Size: len(c), Chunks: []string{sum(c)}})
	}
	text, e := node.Encode(l)
	ok(t, e)
	id, e := manifest.Publish(d, manifest.Manifest{Time: time, Size: len(text), Chunks: []string{sum(text)}})
	ok(t, e)
	return id, text
}

// told: all files of a disk.
func told(d *disk.Disk) string {
	names, e := d.List()
	out := fmt.Sprint(e)
	for _, name := range names {
		s, _ := d.Read(name)
		out += fmt.Sprintf(" %s %q", name, s)
	}
	return out
}

// unpacked: the chunks of a pack's bytes, by the library, as they stand.
func unpacked(t *testing.T, body string) []string {
	t.Helper()
	z, e := zip.NewReader(strings.NewReader(body), int64(len(body)))
	if e != nil {
		t.Fatal(e)
	}
	var out []string
	for _, f := range z.File {
		r, e := f.Open()
		if e != nil {
			t.Fatal(e)
		}
		b, e := io.ReadAll(r)
		if e != nil || f.Name != sha(string(b)) {
			t.Fatalf("%s: %v", f.Name, e)
		}
		out = append(out, string(b))
	}
	return out
}

// isPack: is a file a pack, by its name?
func isPack(name string) bool {
	return name[0] == 'p' && len(name) == 65
}

// contents: the chunks of each of a disk's packs, none of which is spoilt.
func contents(t *testing.T, d *disk.Disk) map[string][]string {
	t.Helper()
	names, e := d.List()
	ok(t, e)
	out := map[string][]string{}
	for _, name := range names {
		if isPack(name) {
			body, e := d.Read(name)
			ok(t, e)
			if name != "p"+sha(body) {
				t.Fatalf("%s is spoilt", name)
			}
			out[name] = unpacked(t, body)
		}
	}
	return out
}

// planned: the chapter's plan of a disk whose snapshots need just these chunks.
func planned(t *testing.T, d *disk.Disk, needed []string) Plan {
	t.Helper()
	all := contents(t, d)
	place := map[string]string{}
	var plan Plan
	for _, name := range slices.Sorted(maps.Keys(all)) {
		var own []string
		for _, c := range all[name] {
			if _, is := place[c]; !is {
				place[c] = name
			}
			if place[c] == name && slices.Contains(needed, c) {
				own = append(own, sha(c))
			}
		}
		if len(own) == 0 || len(own) < len(all[name]) {
			plan.Gone = append(plan.Gone, name)
			plan.Moved = append(plan.Moved, own...)
		}
	}
	slices.Sort(plan.Moved)
	return plan
}

// same: are two plans the same?
func same(a, b Plan) bool {
	return slices.Equal(a.Gone, b.Gone) && slices.Equal(a.Moved, b.Moved)
}

// plans: what Of is to answer.
func plans(t *testing.T, what string, d *disk.Disk, want Plan) {
	t.Helper()
	_, s := opened(t, d)
	if p, e := Of(d, s); !same(p, want) || e != api.OK {
		t.Fatalf("%s: %v, %d, not %v", what, p, e, want)
	}
}

// unplanned: the error that Of and Run are to answer; neither changes the disk.
func unplanned(t *testing.T, what string, d *disk.Disk, l *wal.Log, s *store.Store, want api.Errno) {
	t.Helper()
	before := told(d)
	if p, e := Of(d, s); !same(p, Plan{}) || e != want {
		t.Errorf("%s: Of: %v, %d, not %d", what, p, e, want)
	}
	if p, e := Run(d, l, s, 6); !same(p, Plan{}) || e != want {
		t.Errorf("%s: Run: %v, %d, not %d", what, p, e, want)
	}
	if told(d) != before {
		t.Errorf("%s: the disk has changed", what)
	}
}

// collected: Run is answered by the plan, and what is behind it is as promised.
func collected(t *testing.T, what string, d *disk.Disk, level int, needed []string) {
	t.Helper()
	want := planned(t, d, needed)
	snaps := others(t, d)
	l, s := opened(t, d)
	if p, e := Run(d, l, s, level); !same(p, want) || e != api.OK {
		t.Fatalf("%s: Run: %v, %d, not %v", what, p, e, want)
	}
	if others(t, d) != snaps {
		t.Fatalf("%s: other files have changed", what)
	}
	if len(l.Records()) != 0 || l.Torn() {
		t.Fatalf("%s: the log: %q, %v", what, l.Records(), l.Torn())
	}
	clean(t, what, d, needed)
}

// others: all files of a disk but its packs, its log and what was half made.
func others(t *testing.T, d *disk.Disk) string {
	t.Helper()
	names, e := d.List()
	ok(t, e)
	out := ""
	for _, name := range names {
		if !isPack(name) && name != wal.Name && name != packs.Temp {
			s, _ := d.Read(name)
			out += fmt.Sprintf("%s %q ", name, s)
		}
	}
	return out
}

// clean: the packs have just these chunks, each once, and the log has nothing; so there is nothing to collect.
func clean(t *testing.T, what string, d *disk.Disk, needed []string) {
	t.Helper()
	var got []string
	for _, chunks := range contents(t, d) {
		got = append(got, chunks...)
	}
	slices.Sort(got)
	want := slices.Compact(slices.Sorted(slices.Values(needed)))
	if !slices.Equal(got, want) {
		t.Fatalf("%s: %d chunks, not %d: %.200q", what, len(got), len(want), got)
	}
	if log, e := d.Read(wal.Name); log != "" || e != api.OK {
		t.Fatalf("%s: the log is %q, %d", what, log, e)
	}
	plans(t, what, d, Plan{})
}

// holds: all these chunks are got from the store of a disk.
func holds(t *testing.T, what string, d *disk.Disk, needed []string) {
	t.Helper()
	_, s := opened(t, d)
	for _, c := range needed {
		if got, e := s.Get(sha(c)); got != c || e != api.OK {
			t.Fatalf("%s: %.40q: %.40q, %d", what, c, got, e)
		}
	}
}

// P23.1: the chapter's example, step by step.
func TestExample(t *testing.T) {
	d := blankDisk(t, room)
	pack := packed(t, d, 6, "a", "b")
	_, text := snapped(t, d, 1, "a")
	other := packed(t, d, 6, text)
	plans(t, "a is needed", d, Plan{Gone: []string{pack}, Moved: []string{sha("a")}})
	collected(t, "a is needed", d, 6, []string{"a", text})
	all := contents(t, d)
	moved, _, e := packs.Build([]string{"a"}, 6)
	ok(t, e)
	if len(all) != 2 || !slices.Equal(all[moved], []string{"a"}) || !slices.Equal(all[other], []string{text}) {
		t.Errorf("behind it: %q", all)
	}
}

// P23.1: no packs, no snapshots, packs of which all is needed, of which nothing is, without any chunk.
func TestOf(t *testing.T) {
	d := blankDisk(t, room)
	plans(t, "an empty disk", d, Plan{})
	one := packed(t, d, 6, "a", "b")
	plans(t, "no snapshots", d, Plan{Gone: []string{one}})
	_, text := snapped(t, d, 1, "a", "b")
	two := packed(t, d, 6, text)
	plans(t, "all is needed", d, Plan{})
	empty, e := zipfmt.Write(nil, 6)
	ok(t, e)
	none := "p" + sha(empty)
	written(t, d, none, empty)
	plans(t, "a pack without chunks", d, Plan{Gone: []string{none}})
	junk := packed(t, d, 6, "c", "d")
	plans(t, "a pack that nobody needs", d, Plan{Gone: slices.Sorted(slices.Values([]string{none, junk}))})
	mixed := packed(t, d, 6, "e", "f", "g")
	_, more := snapped(t, d, 2, "f", "g", "a")
	last := packed(t, d, 6, more)
	plans(t, "some of a pack", d, Plan{Gone: slices.Sorted(slices.Values([]string{none, junk, mixed})), Moved: called("f", "g")})
	written(t, d, "tmp", "half a pack")
	written(t, d, "pack", "no pack")
	written(t, d, "P"+sha("x"), "x")
	plans(t, "other files", d, Plan{Gone: slices.Sorted(slices.Values([]string{none, junk, mixed})), Moved: called("f", "g")})
	collected(t, "some of a pack", d, 6, []string{"a", "b", "f", "g", text, more})
	left := contents(t, d)
	for _, name := range []string{one, two, last} {
		if _, is := left[name]; !is {
			t.Errorf("%s, of which all was needed, is gone", name)
		}
	}
}

// P23.1: a chunk that stands in more packs is the own one of the first alone, by their names.
func TestOfTwice(t *testing.T) {
	d := blankDisk(t, room)
	_, text := snapped(t, d, 1, "a", "b")
	packed(t, d, 6, text)
	first, second := packed(t, d, 6, "a", "b"), packed(t, d, 6, "b", "a", "c")
	wide := strings.Repeat("wide ", 100)
	_, more := snapped(t, d, 2, wide)
	packed(t, d, 6, more)
	deflated, stored := packed(t, d, 9, wide), packed(t, d, 0, wide)
	if deflated == stored {
		t.Fatal("one pack")
	}
	want := Plan{Gone: []string{max(deflated, stored)}}
	if first < second {
		want.Gone = append(want.Gone, second)
	} else {
		want = Plan{Gone: append(want.Gone, first, second), Moved: called("a", "b")}
	}
	slices.Sort(want.Gone)
	plans(t, "packs with the same chunks", d, want)
	collected(t, "packs with the same chunks", d, 6, []string{"a", "b", text, wide, more})
}

// P23.1: a snapshot that is spoilt, or has lost a chunk, or a pack that is spoilt: nothing may go.
func TestOfLoss(t *testing.T) {
	built := func() (*disk.Disk, string, string, string) {
		d := blankDisk(t, room)
		id, text := snapped(t, d, 1, "a")
		packed(t, d, 6, text)
		return d, id, packed(t, d, 6, "a", "b"), packed(t, d, 6, "unused")
	}
	d, id, _, _ := built()
	ok(t, d.Spoil("s"+id, 0, 'S'))
	l, s := opened(t, d)
	unplanned(t, "a spoilt manifest", d, l, s, api.ErrLoss)

	d, _, pack, unused := built()
	ok(t, d.Remove(pack))
	l, s = opened(t, d)
	unplanned(t, "a chunk is wanting", d, l, s, api.ErrLoss)

	for what, name := range map[string]string{"needed": pack, "not needed": unused} {
		d, _, _, _ = built()
		l, s = opened(t, d)
		ok(t, d.Spoil(name, 0, 'Q'))
		unplanned(t, "spoilt since, "+what, d, l, s, api.ErrLoss)
		l, s = opened(t, d)
		unplanned(t, "spoilt, "+what, d, l, s, api.ErrLoss)
		ok(t, d.Spoil(name, 0, 'P'))
		unplanned(t, "spoilt when it was opened, "+what, d, l, s, api.ErrLoss)
		ok(t, d.Remove(name))
		unplanned(t, "spoilt when it was opened, and gone, "+what, d, l, s, api.ErrLoss)
	}

	d, _, _, _ = built()
	written(t, d, "p"+sha("text"), "text")
	l, s = opened(t, d)
	unplanned(t, "a pack that is no archive", d, l, s, api.ErrLoss)
}

// P23.1: a dead disk goes ahead of all else.
func TestOfDead(t *testing.T) {
	d := blankDisk(t, room)
	id, text := snapped(t, d, 1, "a")
	packed(t, d, 6, text, "a", "b")
	bad := packed(t, d, 6, "c")
	ok(t, d.Spoil(bad, 0, 'Q'), d.Spoil("s"+id, 0, 'S'))
	l, s := opened(t, d)
	d.Arm(0)
	is(t, "dying", d.Settle(), api.ErrDead)
	unplanned(t, "dead", d, l, s, api.ErrDead)
	if _, e := Run(d, l, s, 99); e != api.ErrDead {
		t.Errorf("dead, with no level: %d", e)
	}
}

// P23.1, P23.3: a store that was opened ahead of a collection doesn't know where chunks are: nothing goes by its word.
func TestStaleStore(t *testing.T) {
	d := blankDisk(t, room)
	_, text := snapped(t, d, 1, "a")
	packed(t, d, 6, text)
	packed(t, d, 6, "a", "b")
	_, stale := opened(t, d)
	collected(t, "once", d, 6, []string{"a", text})
	l, _ := opened(t, d)
	unplanned(t, "again, by the same store", d, l, stale, api.ErrLoss)
	holds(t, "behind it", d, []string{"a", text})
}

// P23.1: Of changes nothing; what it answers is new memory.
func TestOfChangesNothing(t *testing.T) {
	d, _ := scene(t, 3, room)
	_, s := opened(t, d)
	before, names := told(d), s.Names()
	d.Arm(0)
	a, e := Of(d, s)
	b, _ := Of(d, s)
	if e != api.OK || len(a.Gone) < 2 || len(a.Moved) < 2 || !same(a, b) {
		t.Fatalf("%v, %v, %d", a, b, e)
	}
	d.Arm(-1)
	if told(d) != before || !slices.Equal(names, s.Names()) {
		t.Error("the disk or the store has changed")
	}
	a.Gone[0], a.Moved[0] = "?", "?"
	_, _ = append(a.Gone, "?"), append(a.Moved, "?")
	if c, _ := Of(d, s); !same(b, c) {
		t.Errorf("%v, not %v", c, b)
	}
}

// scene is a disk of that room by dice: packs of chunks that are needed, not needed, and twice there; what the snapshots need.
func scene(t *testing.T, seed, room int) (*disk.Disk, []string) {
	t.Helper()
	r := dice(seed)
	d := blankDisk(t, room)
	pool := numbered("chunk ", 12, 12+r.IntN(60))
	var needed, texts []string
	for time := range 1 + r.IntN(3) {
		var some []string
		for _, c := range pool {
			if r.IntN(4) == 0 {
				some = append(some, c)
			}
		}
		_, text := snapped(t, d, time, some...)
		texts = append(texts, text)
		needed = append(append(needed, some...), text)
	}
	slices.Sort(needed)
	needed = slices.Compact(needed)
	// First each chunk in some pack, then a few of them in others once more.
	all := slices.Compact(slices.Sorted(slices.Values(append(slices.Clone(pool), texts...))))
	r.Shuffle(len(all), func(i, j int) { all[i], all[j] = all[j], all[i] })
	for part := range slices.Chunk(all, 1+r.IntN(5)) {
		packed(t, d, r.IntN(10), part...)
	}
	for range r.IntN(4) {
		i := r.IntN(len(all))
		packed(t, d, r.IntN(10), all[i:min(i+1+r.IntN(4), len(all))]...)
	}
	return d, needed
}

// P23.1, P23.2: scenes by dice against the chapter's words.
func TestRun(t *testing.T) {
	moves := 0
	for seed := range 60 {
		d, needed := scene(t, seed, room)
		want := planned(t, d, needed)
		plans(t, fmt.Sprint("scene ", seed), d, want)
		collected(t, fmt.Sprint("scene ", seed), d, seed%10, needed)
		moves += len(want.Moved)
		// A crash takes nothing of it back.
		d.Crash()
		clean(t, fmt.Sprint("scene ", seed, " behind a crash"), d, needed)
	}
	if moves < 60 {
		t.Errorf("only %d chunks were moved", moves)
	}
}

// P23.2: where there is nothing to be done, nothing is done.
func TestRunNothing(t *testing.T) {
	d := blankDisk(t, room)
	_, text := snapped(t, d, 1, "a")
	packed(t, d, 6, text, "a")
	l, s := opened(t, d)
	d.Arm(0)
	for _, level := range []int{6, -1, 10} {
		if p, e := Run(d, l, s, level); !same(p, Plan{}) || e != api.OK {
			t.Errorf("level %d: %v, %d", level, p, e)
		}
	}
}

// P23.2: a torn log is mended, also where nothing goes.
func TestRunTorn(t *testing.T) {
	for _, junk := range []bool{false, true} {
		d := blankDisk(t, room)
		_, text := snapped(t, d, 1, "a")
		packed(t, d, 6, text, "a")
		if junk {
			packed(t, d, 6, "unused")
		}
		written(t, d, wal.Name, wal.Frame("gone p" + sha("x"))[:20])
		collected(t, fmt.Sprint("torn, junk ", junk), d, 6, []string{"a", text})
	}
}

// P23.2: new packs are those that packs.Build makes with the level; a level that is none is refused where chunks are moved.
func TestRunLevel(t *testing.T) {
	wide := strings.Repeat("some text that is deflated. ", 40) + strings.Repeat("0123456789", 20)
	names := map[string]int{}
	for level := -2; level <= 11; level++ {
		d := blankDisk(t, room)
		_, text := snapped(t, d, 1, wide, "a")
		packed(t, d, 6, text)
		packed(t, d, 6, wide, "a", "b")
		l, s := opened(t, d)
		if level < 0 || level > 9 {
			// Not even something that changes nothing is done.
			d.Arm(0)
			if p, e := Run(d, l, s, level); !same(p, Plan{}) || e != api.ErrArg {
				t.Errorf("level %d: %v, %d", level, p, e)
			}
			continue
		}
		name, body, e := packs.Build([]string{wide, "a"}, level)
		ok(t, e)
		collected(t, fmt.Sprint("level ", level), d, level, []string{wide, "a", text})
		if got, e := d.Read(name); got != body || e != api.OK {
			t.Errorf("level %d: no pack of this level", level)
		}
		names[name]++
	}
	if len(names) < 2 {
		t.Error("all levels have one pack")
	}
}

// P23.2: a level that is none isn't asked where no chunk is moved.
func TestRunNoLevel(t *testing.T) {
	d := blankDisk(t, room)
	_, text := snapped(t, d, 1, "a")
	packed(t, d, 6, text, "a")
	packed(t, d, 6, "unused")
	collected(t, "level 99", d, 99, []string{"a", text})
}

// P23.2: more chunks, and more bytes, than a pack has room for.
func TestRunManyChunks(t *testing.T) {
	for _, size := range []int{20, 900, api.MaxChunk} {
		d := blankDisk(t, room)
		chunks := numbered("many ", 380, size)
		if size == api.MaxChunk {
			chunks = chunks[:65]
		}
		var needed []string
		for part := range slices.Chunk(chunks, 95) {
			_, text := snapped(t, d, 1, part...)
			packed(t, d, 6, text)
			needed = append(append(needed, part...), text)
		}
		for i, part := range slices.Collect(slices.Chunk(chunks, 30)) {
			packed(t, d, 6, append(slices.Clone(part), fmt.Sprint("unused ", i))...)
		}
		collected(t, fmt.Sprint(len(chunks), " chunks of ", size), d, 6, needed)
	}
}

// sameScene: a disk with so many bytes more room than it needs: two packs that go, one of which has just the chunks of the other one that stay; and its plan. False: the one with more isn't the first by its name, so it isn't such a disk.
func sameScene(t *testing.T, i, more int) (*disk.Disk, Plan, []string, bool) {
	t.Helper()
	built := func(room int) (*disk.Disk, string, string, string) {
		d := blankDisk(t, room)
		_, text := snapped(t, d, 1, "a", "b")
		packed(t, d, 6, text)
		return d, text, packed(t, d, 6, "a", "b", fmt.Sprint("unused ", i)), packed(t, d, 6, "a", "b")
	}
	d, _, _, _ := built(room)
	d, text, mixed, alone := built(d.Used() + more)
	return d, Plan{Gone: []string{mixed, alone}, Moved: called("a", "b")}, []string{"a", "b", text}, mixed < alone
}

// P23.2: a new pack whose bytes are those of one that was to go stays; it needs no room. Where the log has none, both stay.
func TestRunSamePack(t *testing.T) {
	found := 0
	for i := range 20 {
		record := len(wal.Frame("gone p" + sha("")))
		d, plan, needed, is := sameScene(t, i, record)
		if !is {
			continue
		}
		found++
		plans(t, "two packs that go", d, plan)
		collected(t, "two packs that go", d, 6, needed)
		if _, e := d.Read(plan.Gone[1]); e != api.OK {
			t.Errorf("the new pack is gone: %d", e)
		}
		d, _, _, _ = sameScene(t, i, record-1)
		before := told(d)
		l, s := opened(t, d)
		if p, e := Run(d, l, s, 6); !same(p, Plan{}) || e != api.ErrSpace || told(d) != before {
			t.Errorf("without room: %v, %d", p, e)
		}
	}
	if found == 0 {
		t.Error("no such packs")
	}
}

// junkPacks: so many packs that nobody needs are written, as a crash-proof disk has them.
func junkPacks(t *testing.T, d *disk.Disk, n int) []string {
	t.Helper()
	var out []string
	for i := range n {
		name, body, e := packs.Build([]string{fmt.Sprint("junk ", i)}, 0)
		ok(t, e, d.Append(name, body), d.Sync(name))
		out = append(out, name)
	}
	ok(t, d.Settle())
	slices.Sort(out)
	return out
}

// inForm: the names that records of the log give out as gone, each record by the chapter's form.
func inForm(t *testing.T, word, front string, records []string) []string {
	t.Helper()
	var out []string
	for _, r := range records {
		rest, is := strings.CutPrefix(r, word)
		if !is || len(rest)%66 != 0 || len(r) > wal.MaxRecord {
			t.Fatalf("a record: %.100q", r)
		}
		for part := range slices.Chunk([]byte(rest), 66) {
			if string(part[:2]) != " "+front {
				t.Fatalf("a record: %.100q", r)
			}
			out = append(out, string(part[1:]))
		}
	}
	return out
}

// P23.2: more packs go than a record of the log names: all of them are written down, and only then does the first one go.
func TestRunManyPacks(t *testing.T) {
	const junk = 160
	most := 0
	for n := 0; ; n++ {
		d := blankDisk(t, room)
		_, text := snapped(t, d, 1, "a")
		packed(t, d, 6, text, "a")
		gone := junkPacks(t, d, junk)
		l, s := opened(t, d)
		d.Arm(n)
		p, e := Run(d, l, s, 6)
		if e == api.OK {
			if !slices.Equal(p.Gone, gone) || len(p.Moved) != 0 {
				t.Errorf("Run: %v", p)
			}
			break
		}
		if e != api.ErrDead {
			t.Fatalf("dying behind %d: %d", n, e)
		}
		d.Crash()
		l, e = wal.Open(d)
		ok(t, e)
		names := inForm(t, "gone", "p", l.Records())
		if !slices.Equal(names, gone[:len(names)]) {
			t.Fatalf("behind %d: the log names %d others", n, len(names))
		}
		most = max(most, len(names))
		if left := len(contents(t, d)); left <= junk && len(names) < junk && left > 1 {
			t.Fatalf("behind %d: %d packs are left, and %d are named", n, left, len(names))
		}
		ok(t, Finish(d, l))
		holds(t, fmt.Sprint("behind ", n), d, []string{"a", text})
		if left := len(contents(t, d)); left != 1+junk-len(names) && left != 1 {
			t.Fatalf("behind %d, finished: %d packs are left", n, left)
		}
	}
	if most != junk {
		t.Errorf("at most %d packs were named", most)
	}
}

// P23.2: a log that is full already is emptied on the way.
func TestRunFullLog(t *testing.T) {
	for _, count := range []int{wal.MaxRecords - 1, wal.MaxRecords} {
		d := blankDisk(t, room)
		_, text := snapped(t, d, 1, "a")
		packed(t, d, 6, text)
		packed(t, d, 6, "a", "b")
		junkPacks(t, d, 160)
		written(t, d, wal.Name, strings.Repeat(wal.Frame("gone p"+sha("nothing")), count))
		collected(t, fmt.Sprint(count, " records"), d, 6, []string{"a", text})
	}
}

// keeps: what crashes keep of what wasn't safe: nothing, all, and some by dice.
func keeps(seed int) [][]int {
	r := dice(seed)
	out := [][]int{{}, {1}, {0, 1}, {1, 0, 0}}
	for range 3 {
		var l []int
		for range 5 + r.IntN(9) {
			l = append(l, r.IntN(400))
		}
		out = append(out, l)
	}
	return out
}

// recovered: behind a crash the log is opened, Finish brings what is under way to its end, and doing so again changes nothing.
func recovered(t *testing.T, what string, d *disk.Disk) {
	t.Helper()
	l, e := wal.Open(d)
	ok(t, e)
	if e := Finish(d, l); e != api.OK {
		t.Fatalf("%s: Finish: %d", what, e)
	}
	if len(l.Records()) != 0 || l.Torn() {
		t.Fatalf("%s: the log: %q, %v", what, l.Records(), l.Torn())
	}
	before := told(d)
	d.Arm(0)
	ok(t, Finish(d, l))
	l, e = wal.Open(d)
	ok(t, e, Finish(d, l))
	d.Arm(-1)
	if told(d) != before {
		t.Fatalf("%s: Finish again has changed the disk", what)
	}
}

// P23.3, P23.4: wherever a collection dies, and whatever a crash keeps, nothing that is needed is lost, and it may be run again.
func TestRunCrashes(t *testing.T) {
	for seed := range 4 {
		for n := 0; ; n++ {
			died := false
			for i, keep := range keeps(seed*1000 + n) {
				what := fmt.Sprintf("scene %d, dying behind %d, crash %d", seed, n, i)
				d, needed := scene(t, seed, room)
				snaps := others(t, d)
				l, s := opened(t, d)
				d.Arm(n)
				p, e := Run(d, l, s, 6)
				died = e == api.ErrDead
				if !died {
					ok(t, e)
				} else if !same(p, Plan{}) {
					t.Fatalf("%s: %v", what, p)
				}
				d.Crash(keep...)
				holds(t, what, d, needed)
				recovered(t, what, d)
				holds(t, what+", finished", d, needed)
				if others(t, d) != snaps {
					t.Fatalf("%s: other files have changed", what)
				}
				if !died {
					clean(t, what, d, needed)
				}
				collected(t, what+", again", d, 3, needed)
			}
			if !died {
				break
			}
		}
	}
}

// P23.3: a collection dies, and what brings it to its end dies as well, once and again.
func TestFinishCrashes(t *testing.T) {
	for seed := range 3 {
		for n := 0; ; n++ {
			d, needed := scene(t, seed, room)
			l, s := opened(t, d)
			d.Arm(n)
			if _, e := Run(d, l, s, 6); e == api.OK {
				break
			} else if e != api.ErrDead {
				t.Fatalf("scene %d, dying behind %d: %d", seed, n, e)
			}
			r := dice(seed*1000 + n)
			d.Crash(r.IntN(100), r.IntN(100), r.IntN(100))
			for m := 0; ; m++ {
				l, e := wal.Open(d)
				ok(t, e)
				d.Arm(m)
				if e := Finish(d, l); e == api.OK {
					break
				} else if e != api.ErrDead {
					t.Fatalf("scene %d, dying behind %d, and behind %d: %d", seed, n, m, e)
				}
				d.Crash(r.IntN(100), r.IntN(100), r.IntN(100))
				holds(t, fmt.Sprintf("scene %d, dying behind %d, and behind %d", seed, n, m), d, needed)
			}
			d.Arm(-1)
			collected(t, fmt.Sprintf("scene %d, dying behind %d", seed, n), d, 6, needed)
		}
	}
}

// P23.3: on a disk without room a collection is refused, and leaves all as it was; with room it is done.
func TestRunFull(t *testing.T) {
	for seed := range 4 {
		d, needed := scene(t, seed, room)
		used := d.Used()
		full := 0
		for more := 0; ; more += 19 {
			d, _ := scene(t, seed, used+more)
			before := told(d)
			l, s := opened(t, d)
			p, e := Run(d, l, s, 6)
			if e == api.OK {
				clean(t, fmt.Sprintf("scene %d with %d more", seed, more), d, needed)
				break
			}
			full++
			what := fmt.Sprintf("scene %d with only %d more", seed, more)
			if e != api.ErrSpace || !same(p, Plan{}) || len(l.Records()) != 0 || told(d) != before {
				t.Fatalf("%s: %v, %d, the log %q", what, p, e, l.Records())
			}
			// The same store and the same log go on.
			if _, e := Run(d, l, s, 6); e != api.ErrSpace {
				t.Fatalf("%s, again: %d", what, e)
			}
			d.Crash()
			if told(d) != before {
				t.Fatalf("%s: not as it was behind a crash", what)
			}
		}
		if full == 0 {
			t.Errorf("scene %d was never too great", seed)
		}
	}
}

// P23.3: a disk that is full, and dies as well.
func TestRunFullCrashes(t *testing.T) {
	for seed := range 3 {
		d, _ := scene(t, seed, room)
		used := d.Used()
		for _, more := range []int{0, 90, 300, 600, 900} {
			for n := 0; ; n++ {
				what := fmt.Sprintf("scene %d with %d more, dying behind %d", seed, more, n)
				d, needed := scene(t, seed, used+more)
				l, s := opened(t, d)
				d.Arm(n)
				_, e := Run(d, l, s, 6)
				r := dice(n)
				d.Crash(r.IntN(50), r.IntN(50), r.IntN(50), r.IntN(50))
				recovered(t, what, d)
				holds(t, what, d, needed)
				if e != api.ErrDead {
					break
				}
			}
		}
	}
}

// P23.3: many chunks are moved where there is room for the first new packs, but not for all: the copies don't stay.
func TestRunFullCopies(t *testing.T) {
	built := func(room int) (*disk.Disk, []string) {
		d := blankDisk(t, room)
		chunks := numbered("many ", 190, 100)
		needed := slices.Clone(chunks)
		for part := range slices.Chunk(chunks, 95) {
			_, text := snapped(t, d, 1, part...)
			packed(t, d, 6, text)
			packed(t, d, 6, append(slices.Clone(part), "unused "+part[0])...)
			needed = append(needed, text)
		}
		return d, needed
	}
	d, needed := built(room)
	used := d.Used()
	l, s := opened(t, d)
	d.Arm(1000)
	_, e := Run(d, l, s, 6)
	ok(t, e)
	size := 0
	for name := range contents(t, d) {
		body, _ := d.Read(name)
		size += len(body)
	}
	for more := 1000; more < size+200; more += 1999 {
		d, _ := built(used + more)
		before := told(d)
		l, s := opened(t, d)
		if _, e := Run(d, l, s, 6); e == api.OK {
			clean(t, fmt.Sprint(more, " more"), d, needed)
		} else if e != api.ErrSpace || told(d) != before {
			t.Errorf("only %d more: %d, or copies were left", more, e)
		}
	}
}

// P23.3: there is room for a record of the log, but not for two: what the first one says goes all the same, and what was moved stays.
func TestRunHalfTold(t *testing.T) {
	built := func(room int) (*disk.Disk, string) {
		d := blankDisk(t, room)
		_, text := snapped(t, d, 1, "a", "c")
		packed(t, d, 6, text, "c")
		packed(t, d, 6, "a", "b")
		junkPacks(t, d, 100)
		return d, text
	}
	d, text := built(room)
	used := d.Used()
	_, s := opened(t, d)
	p, e := Of(d, s)
	ok(t, e)
	_, moved, e := packs.Build([]string{"a"}, 6)
	ok(t, e)
	for n := -1; ; n++ {
		d, _ := built(used + len(moved) + len(wal.Frame(record("gone", p.Gone[:75]))) + 50)
		l, s := opened(t, d)
		d.Arm(n)
		got, e := Run(d, l, s, 6)
		if !same(got, Plan{}) {
			t.Errorf("%v", got)
		}
		if e == api.ErrSpace {
			left := contents(t, d)
			for i, name := range p.Gone {
				if _, is := left[name]; is != (i >= 75) {
					t.Errorf("pack %d is there: %v", i, is)
				}
			}
			if len(l.Records()) != 0 {
				t.Errorf("the log: %q", l.Records())
			}
		} else if e != api.ErrDead {
			t.Fatalf("dying behind %d: %d", n, e)
		}
		d.Crash(1, 0, 2)
		recovered(t, fmt.Sprint("dying behind ", n), d)
		holds(t, fmt.Sprint("dying behind ", n), d, []string{"a", "c", text})
		if n >= 0 && e == api.ErrSpace {
			break
		}
	}
}

// P23.3: the log has a record from elsewhere, and there is no room for another one, or the log is full as well: what was moved out of the pack that it names stays.
func TestRunFullOldRecord(t *testing.T) {
	for _, more := range []int{0, wal.MaxRecords - 1} {
		built := func(room int) (*disk.Disk, string, string) {
			d := blankDisk(t, room)
			_, text := snapped(t, d, 1, "a")
			packed(t, d, 6, text)
			junkPacks(t, d, 80)
			pack := packed(t, d, 6, "a", "b")
			written(t, d, wal.Name, wal.Frame("gone "+pack)+strings.Repeat(wal.Frame("gone"), more))
			return d, pack, text
		}
		_, body, e := packs.Build([]string{"a"}, 6)
		ok(t, e)
		d, _, _ := built(room)
		d, pack, text := built(d.Used() + len(body) + 10)
		l, s := opened(t, d)
		if p, e := Run(d, l, s, 6); !same(p, Plan{}) || e != api.ErrSpace {
			t.Errorf("%d more: %v, %d", more, p, e)
		}
		if _, e := d.Read(pack); e != api.ErrAbsent {
			t.Errorf("%d more: the pack that was written down: %d", more, e)
		}
		holds(t, fmt.Sprint(more, " more"), d, []string{"a", text})
	}
}

// P23.3: a chunk that can't be moved, as its pack says another one: nothing goes.
func TestRunLostChunk(t *testing.T) {
	d := blankDisk(t, room)
	_, text := snapped(t, d, 1, "a", "b")
	packed(t, d, 6, text)
	names := called("b", "c")
	var files []zipfmt.File
	for _, name := range names {
		files = append(files, zipfmt.File{Name: name, Data: "another"})
	}
	body, e := zipfmt.Write(files, 6)
	ok(t, e)
	written(t, d, "p"+sha(body), body)
	packed(t, d, 6, "a", "unused")
	l, s := opened(t, d)
	before := told(d)
	if p, e := Run(d, l, s, 6); !same(p, Plan{}) || e != api.ErrLoss {
		t.Errorf("%v, %d", p, e)
	}
	if told(d) != before || len(l.Records()) != 0 {
		t.Error("the disk has changed")
	}
}

// snaps: a disk with so many snapshots, and their names.
func snaps(t *testing.T, room, n int) (*disk.Disk, []string) {
	t.Helper()
	d := blankDisk(t, room)
	var ids []string
	for i := range n {
		id, e := manifest.Publish(d, manifest.Manifest{Time: i, Size: 1, Chunks: []string{sum("\x00")}})
		ok(t, e)
		ids = append(ids, id)
	}
	return d, ids
}

// listed: the names of a disk's snapshots, by their times.
func listed(t *testing.T, d *disk.Disk) []string {
	t.Helper()
	l, bad, e := manifest.List(d)
	ok(t, e)
	if len(bad) != 0 {
		t.Fatalf("spoilt: %v", bad)
	}
	var out []string
	for _, s := range l {
		out = append(out, s.Id)
	}
	return out
}

// P23.5: those that are named are gone, wherever they stand; others aren't; and the log is empty.
func TestDrop(t *testing.T) {
	d, ids := snaps(t, room, 6)
	pack := packed(t, d, 6, "\x00")
	l, _ := opened(t, d)
	drop := func(what string, l *wal.Log, dropped []string, want ...string) {
		t.Helper()
		ok(t, Drop(d, l, dropped))
		if got := listed(t, d); !slices.Equal(got, want) {
			t.Fatalf("%s: %v, not %v", what, got, want)
		}
		if log, e := d.Read(wal.Name); log != "" || e != api.OK || len(l.Records()) != 0 {
			t.Fatalf("%s: the log is %q, %d", what, log, e)
		}
		d.Crash()
		if got := listed(t, d); !slices.Equal(got, want) {
			t.Fatalf("%s, behind a crash: %v, not %v", what, got, want)
		}
	}
	drop("one", l, ids[2:3], ids[0], ids[1], ids[3], ids[4], ids[5])
	l, _ = opened(t, d)
	drop("one that is gone", l, ids[2:3], ids[0], ids[1], ids[3], ids[4], ids[5])
	drop("falling, one twice, one that never was", l, []string{ids[5], sha("never"), ids[1], ids[5]}, ids[0], ids[3], ids[4])
	written(t, d, wal.Name, wal.Frame("drop s" + ids[0])[:30])
	l, _ = opened(t, d)
	drop("a torn log", l, ids[4:5], ids[0], ids[3])
	written(t, d, wal.Name, wal.Frame("drop s"+ids[0]))
	l, _ = opened(t, d)
	drop("behind what was under way", l, ids[3:4])
	if _, is := contents(t, d)[pack]; !is {
		t.Error("a pack is gone")
	}
}

// P23.5: a spoilt manifest goes as well: it is called by its name.
func TestDropSpoilt(t *testing.T) {
	d, ids := snaps(t, room, 2)
	ok(t, d.Spoil("s"+ids[0], 0, 'S'))
	l, _ := opened(t, d)
	ok(t, Drop(d, l, ids[:1]))
	if got := listed(t, d); !slices.Equal(got, ids[1:]) {
		t.Errorf("%v", got)
	}
}

// P23.5: none to be dropped, whatever the disk; names that are none; more than a record has room for.
func TestDropErrors(t *testing.T) {
	d, ids := snaps(t, room, 3)
	l, _ := opened(t, d)
	before := told(d)
	d.Arm(0)
	for _, bad := range []string{"", "x", "s" + ids[0], ids[0][:63], ids[0] + "0", strings.ToUpper(sha("a")), " " + ids[0], ids[0][:63] + " ", ids[0][:63] + "g", ids[0] + " s" + ids[1]} {
		is(t, fmt.Sprintf("%q", bad), Drop(d, l, []string{bad}), api.ErrForm)
		is(t, fmt.Sprintf("behind others %q", bad), Drop(d, l, []string{ids[0], ids[1], bad}), api.ErrForm)
		is(t, fmt.Sprintf("ahead of others %q", bad), Drop(d, l, []string{bad, ids[0]}), api.ErrForm)
		is(t, fmt.Sprintf("too many and %q", bad), Drop(d, l, append(slices.Repeat(ids, 30), bad)), api.ErrForm)
	}
	is(t, "none", Drop(d, l, nil), api.OK)
	is(t, "none", Drop(d, l, []string{}), api.OK)
	d.Arm(-1)
	is(t, "76", Drop(d, l, append(slices.Repeat(ids, 25), ids[0])), api.ErrBig)
	is(t, "100000", Drop(d, l, slices.Repeat(ids[:1], 100000)), api.ErrBig)
	if told(d) != before || len(l.Records()) != 0 {
		t.Fatal("the disk has changed")
	}
	is(t, "75", Drop(d, l, slices.Repeat(ids, 25)), api.OK)
	if got := listed(t, d); len(got) != 0 {
		t.Errorf("left: %v", got)
	}
	d.Arm(0)
	is(t, "dying", d.Settle(), api.ErrDead)
	is(t, "none, dead", Drop(d, l, nil), api.OK)
	is(t, "dead, and no name", Drop(d, l, []string{"x"}), api.ErrForm)
	is(t, "dead", Drop(d, l, ids), api.ErrDead)
}

// P23.5: a log that is full, and one that Finish refuses.
func TestDropLog(t *testing.T) {
	d, ids := snaps(t, room, 3)
	written(t, d, wal.Name, strings.Repeat(wal.Frame("drop s"+ids[0]), wal.MaxRecords))
	l, _ := opened(t, d)
	before := told(d)
	is(t, "a full log", Drop(d, l, ids), api.ErrBig)
	if told(d) != before {
		t.Error("the disk has changed")
	}
	ok(t, l.Reset(), l.Add("x"))
	is(t, "a log that says another thing", Drop(d, l, ids), api.ErrLoss)
	if got := listed(t, d); !slices.Equal(got, ids) {
		t.Errorf("left: %v", got)
	}
}

// P23.5: wherever a drop dies, and whatever a crash keeps: behind Finish all of them are gone, or none; on a disk without room none.
func TestDropCrashes(t *testing.T) {
	full, ids := snaps(t, room, 7)
	rest := []string{ids[0], ids[2], ids[4], ids[6]}
	seen := map[string]int{}
	need := len(wal.Frame("drop" + strings.Repeat(" s"+ids[0], 3)))
	for _, more := range []int{room, 0, need - 1, need, need + 70} {
		for n := 0; ; n++ {
			died := false
			for i, keep := range keeps(n) {
				what := fmt.Sprintf("room %d, dying behind %d, crash %d", more, n, i)
				d, _ := snaps(t, min(room, full.Used()+more), 7)
				l, e := wal.Open(d)
				ok(t, e)
				d.Arm(n)
				e = Drop(d, l, []string{ids[5], ids[1], ids[3]})
				died = e == api.ErrDead
				if e == api.ErrSpace && more >= need {
					t.Fatalf("%s: no room", what)
				}
				d.Crash(keep...)
				l, err := wal.Open(d)
				ok(t, err)
				if dropped := inForm(t, "drop", "s", l.Records()); len(dropped) > 0 && !slices.Equal(dropped, []string{"s" + ids[5], "s" + ids[1], "s" + ids[3]}) {
					t.Fatalf("%s: the log names %v", what, dropped)
				}
				recovered(t, what, d)
				got := listed(t, d)
				seen[fmt.Sprint(e, len(got))]++
				want := ids
				if len(got) != 7 {
					want = rest
				}
				if !slices.Equal(got, want) || (e == api.OK && len(got) == 7) || (e == api.ErrSpace && len(got) != 7) {
					t.Fatalf("%s: %d, %d are left", what, e, len(got))
				}
			}
			if !died {
				break
			}
		}
	}
	for _, s := range []string{"0 4", "10 4", "10 7", "9 7"} {
		if seen[s] == 0 {
			t.Errorf("never: error and left: %s; %v", s, seen)
		}
	}
}

// finished: the error that Finish is to answer.
func finished(t *testing.T, what string, d *disk.Disk, want api.Errno) {
	t.Helper()
	l, e := wal.Open(d)
	ok(t, e)
	is(t, what, Finish(d, l), want)
}

// P23.4: what the records say is gone goes, safely; other files stay; then the log is empty.
func TestFinish(t *testing.T) {
	built := func(records ...string) *disk.Disk {
		d := blankDisk(t, room)
		for _, name := range []string{"p" + sha("a"), "p" + sha("b"), "s" + sha("a"), "s" + sha("b"), "other"} {
			ok(t, d.Append(name, name), d.Sync(name))
		}
		l, e := wal.Open(d)
		ok(t, e, d.Settle())
		for _, r := range records {
			ok(t, l.Add(r))
		}
		return d
	}
	p, s := " p"+sha("a"), " s"+sha("a")
	left := func(what string, d *disk.Disk, want ...string) {
		t.Helper()
		finished(t, what, d, api.OK)
		d.Crash()
		var all []string
		for _, x := range want {
			all = append(all, x[:1]+sha(x[1:]))
		}
		if got, e := d.List(); !slices.Equal(got, slices.Sorted(slices.Values(append(all, "log", "other")))) || e != api.OK {
			t.Errorf("%s: left: %v", what, got)
		}
		if log, e := d.Read(wal.Name); log != "" || e != api.OK {
			t.Errorf("%s: the log is %q", what, log)
		}
		d.Arm(0)
		finished(t, what+", again", d, api.OK)
	}
	left("no records", built(), "pa", "pb", "sa", "sb")
	left("a pack", built("gone"+p), "pb", "sa", "sb")
	left("a manifest", built("drop"+s), "pa", "pb", "sb")
	left("packs, one of them twice, and one that isn't there", built("gone p"+sha("b")+p+" p"+sha("c")+p), "sa", "sb")
	left("more records", built("drop s"+sha("b"), "gone"+p, "drop"+s, "gone"+p), "pb")
	left("none of those that are there", built("drop s"+sha("c"), "gone p"+sha("c")), "pa", "pb", "sa", "sb")
	d := built()
	written(t, d, wal.Name, "torn")
	left("a torn log", d, "pa", "pb", "sa", "sb")
	d = built("gone" + p)
	written(t, d, wal.Name, wal.Frame("gone p" + sha("b"))[:70])
	left("a torn log with a record", d, "pb", "sa", "sb")
}

// P23.4: a record that says anything else is refused; what stands ahead of it goes, what stands behind it doesn't.
func TestFinishLoss(t *testing.T) {
	x := sha("a")
	for _, bad := range []string{
		"", " ", "x", "gone x", "gone log", "drop log", "gone p", "gone s" + x, "drop p" + x, "gone p" + x + " s" + x, "drop s" + x + " p" + x,
		"gone  p" + x, "gone p" + x + " ", " gone p" + x, "gone p" + x + "  p" + x, "gonep" + x, "gone\tp" + x, "gone p" + x + "\n", "gone p" + x + ",p" + x,
		"Gone p" + x, "GONE p" + x, "gone P" + x, "gone p" + x[:63], "gone p" + x + "0", "gone p" + strings.ToUpper(x), "gone " + x, "drop " + x, "drops" + x, "dropgone p" + x,
		"p" + x, "s" + x, "gone p" + x[:63] + "g", "gone p" + x + " other", "gone\x00p" + x, "drop s" + x + " gone p" + x, "gone tmp", "go p" + x, "gone ",
	} {
		d := blankDisk(t, room)
		for _, c := range []string{"a", "b", "c"} {
			ok(t, d.Append("p"+sha(c), c), d.Sync("p"+sha(c)), d.Append("s"+sha(c), c), d.Sync("s"+sha(c)))
		}
		l, e := wal.Open(d)
		ok(t, e, d.Settle(), l.Add(bad), l.Add("gone p"+sha("b")))
		before := told(d)
		what := fmt.Sprintf("%.100q", bad)
		is(t, what, Finish(d, l), api.ErrLoss)
		finished(t, what+", opened anew", d, api.ErrLoss)
		if told(d) != before || !slices.Equal(l.Records(), []string{bad, "gone p" + sha("b")}) {
			t.Errorf("%s: the disk has changed", what)
		}
		ok(t, l.Reset(), l.Add("gone p"+sha("b")), l.Add("drop s"+sha("b")), l.Add(bad), l.Add("gone p"+sha("c")))
		is(t, what+" behind others", Finish(d, l), api.ErrLoss)
		d.Crash()
		got, e := d.List()
		want := []string{"p" + sha("a"), "p" + sha("c"), "s" + sha("a"), "s" + sha("c"), "log"}
		if slices.Sort(want); !slices.Equal(got, want) || e != api.OK {
			t.Errorf("%s behind others: left: %v", what, got)
		}
		l, e = wal.Open(d)
		if ok(t, e); len(l.Records()) != 4 {
			t.Errorf("%s: the log: %q", what, l.Records())
		}
	}
}

// P23.4: a dead disk, where there is anything to be done.
func TestFinishDead(t *testing.T) {
	d, ids := snaps(t, room, 2)
	idle, e := wal.Open(d)
	ok(t, e)
	written(t, d, wal.Name, wal.Frame("drop s"+ids[0]))
	busy, e := wal.Open(d)
	ok(t, e)
	written(t, d, wal.Name, "torn")
	torn, e := wal.Open(d)
	ok(t, e, d.Remove("s"+ids[0]))
	d.Arm(0)
	is(t, "nothing to be done", Finish(d, idle), api.OK)
	is(t, "a record", Finish(d, busy), api.ErrDead)
	is(t, "dead, and nothing to be done", Finish(d, idle), api.OK)
	is(t, "dead, and a record", Finish(d, torn), api.ErrDead)
}

// P23.2, P23.5: lists that are handed in aren't changed, nor the room behind them; answers are new memory.
func TestNotChanged(t *testing.T) {
	d, ids := snaps(t, room, 5)
	packed(t, d, 6, "\x00")
	l, s := opened(t, d)
	before := slices.Clone(ids)
	ok(t, Drop(d, l, ids[1:3]))
	if !slices.Equal(ids, before) {
		t.Errorf("%v", ids)
	}
	packed(t, d, 6, "a", "b")
	l, s = opened(t, d)
	p, e := Run(d, l, s, 6)
	ok(t, e)
	if len(p.Gone) != 1 {
		t.Fatalf("%v", p)
	}
	p.Gone[0] = "?"
	packed(t, d, 6, "a", "b")
	l, s = opened(t, d)
	if q, e := Run(d, l, s, 6); e != api.OK || len(q.Gone) != 1 || q.Gone[0] == "?" {
		t.Errorf("%v, %d", q, e)
	}
}

// P2, K4: the same calls behind the same calls leave the same disk.
func TestSameAgain(t *testing.T) {
	for seed := range 5 {
		var all []string
		for range 4 {
			d, _ := scene(t, seed, room)
			l, s := opened(t, d)
			p, e := Run(d, l, s, 6)
			all = append(all, fmt.Sprint(p, e, told(d)))
		}
		if len(slices.Compact(all)) != 1 {
			t.Errorf("scene %d: not always the same", seed)
		}
	}
}
