package engine

import (
	"archive/zip"
	"crypto/sha256"
	"encoding/binary"
	"fmt"
	"io"
	"maps"
	"math"
	"math/rand/v2"
	"slices"
	"strings"
	"testing"

	"cellarer/api"
	"cellarer/backup"
	"cellarer/chunker"
	"cellarer/disk"
	"cellarer/manifest"
	"cellarer/node"
	"cellarer/retain"
	"cellarer/wal"
)

const room = 1 << 24

// dice: the same numbers in every run of the same seed.
func dice(seed int) *rand.Rand {
	return rand.New(rand.NewPCG(25, uint64(seed)))
}

// sum: the 32 bytes of a text's SHA-256, by the library.
func sum(s string) string {
	b := sha256.Sum256([]byte(s))
	return string(b[:])
}

// sha: a name of bytes, by the library.
func sha(s string) string {
	return fmt.Sprintf("%x", sha256.Sum256([]byte(s)))
}

// ok: calls that are to be answered by OK.
func ok(t *testing.T, all ...api.Errno) {
	t.Helper()
	for i, e := range all {
		if e != api.OK {
			t.Fatalf("call %d: %d", i, e)
		}
	}
}

// is: a call that is to be answered by want.
func is(t *testing.T, what string, got, want api.Errno) {
	t.Helper()
	if got != want {
		t.Errorf("%s: %d, not %d", what, got, want)
	}
}

// killed: the disk has died.
func killed(d *disk.Disk) {
	d.Arm(0)
	d.Settle()
}

// told: all files of a disk.
func told(d *disk.Disk) string {
	names, e := d.List()
	out := fmt.Sprint(e)
	for _, name := range names {
		s, _ := d.Read(name)
		out += fmt.Sprintf(" %s %q", name, s)
	}
	return out
}

// files: the names of those of a disk that begin so.
func files(t *testing.T, d *disk.Disk, front string) []string {
	t.Helper()
	names, e := d.List()
	ok(t, e)
	return slices.DeleteFunc(names, func(name string) bool { return !strings.HasPrefix(name, front) })
}

// written: a file of these bytes, safely.
func written(t *testing.T, d *disk.Disk, name, body string) {
	t.Helper()
	ok(t, d.Append(name, body), d.Sync(name), d.Settle())
}

// copied: another disk, with the same files.
func copied(t *testing.T, d *disk.Disk, room int) *disk.Disk {
	t.Helper()
	out, e := disk.New(room)
	ok(t, e)
	for _, name := range files(t, d, "") {
		body, e := d.Read(name)
		ok(t, e)
		written(t, out, name, body)
	}
	return out
}

// flipped: a byte of a file is another one.
func flipped(t *testing.T, d *disk.Disk, name string, at int) {
	t.Helper()
	body, e := d.Read(name)
	ok(t, e, d.Spoil(name, at, body[at]^1))
}

// noise: so many bytes by dice.
func noise(r *rand.Rand, n int) string {
	var out []byte
	for range n {
		out = append(out, byte('0'+r.IntN(64)))
	}
	return string(out)
}

// file: a tree of one file.
func file(data string) []api.Item {
	return []api.Item{{Path: "f", Kind: api.File, Mode: 420, Time: 5, Data: data}}
}

// garden: a tree of all kinds, by rising paths.
func garden(text string) []api.Item {
	return []api.Item{
		{Path: "a", Kind: api.Dir, Mode: 493, Time: 7},
		{Path: "a/b", Kind: api.File, Mode: 420, Time: 8, Data: strings.Repeat(text, 300)},
		{Path: "a/empty", Kind: api.File, Mode: 0, Time: api.MaxTime},
		{Path: "a/é", Kind: api.File, Mode: 511, Time: 1, Data: "\x00\xff" + text},
		{Path: "a-b", Kind: api.File, Data: noise(dice(7), 900)},
		{Path: "l", Kind: api.Link, Mode: 511, Time: 9, Data: "../no where\xff"},
	}
}

// great: a tree with more chunks than may wait, by rising paths.
func great(seed int) []api.Item {
	var out []api.Item
	for i := range 170 {
		out = append(out, api.Item{Path: fmt.Sprintf("%03d", i), Kind: api.File, Data: fmt.Sprint(seed, " ", i)})
	}
	return out
}

// forest: a tree by dice, by rising paths; of twelve texts, so that trees share chunks.
func forest(r *rand.Rand) []api.Item {
	var out []api.Item
	for i := range r.IntN(5) {
		x := api.Item{Path: fmt.Sprint("f", i), Kind: 1 + r.IntN(3), Mode: r.IntN(4), Time: r.IntN(3)}
		switch x.Kind {
		case api.File:
			text := 100 + r.IntN(12)
			x.Data = noise(dice(text), (text-100)*90)
		case api.Link:
			x.Data = fmt.Sprint("to ", r.IntN(3))
		case api.Dir:
			out = append(out, x)
			x = api.Item{Path: x.Path + "/x", Kind: api.File, Data: noise(dice(1), 700)}
		}
		out = append(out, x)
	}
	return out
}

// turned: the same items, the other way round.
func turned(items []api.Item) []api.Item {
	out := slices.Clone(items)
	slices.Reverse(out)
	return out
}

// cut: a text's chunks, and their sums.
func cut(t *testing.T, s string) ([]string, []string) {
	t.Helper()
	l, e := chunker.Split(s, backup.Chunks())
	ok(t, e)
	var sums []string
	for _, c := range l {
		sums = append(sums, sum(c))
	}
	return l, sums
}

// stored: all chunks of a tree whose items rise, in the order in which they are put, and the text of its nodes, by the document's words.
func stored(t *testing.T, sorted []api.Item) ([]string, string) {
	t.Helper()
	var puts []string
	var nodes []node.Node
	for _, x := range sorted {
		switch x.Kind {
		case api.Dir:
			nodes = append(nodes, node.Folder{At: x.Path, Mode: x.Mode, Time: x.Time})
		case api.Link:
			nodes = append(nodes, node.Sym{At: x.Path, Mode: x.Mode, Time: x.Time, Target: x.Data})
		case api.File:
			parts, sums := cut(t, x.Data)
			puts = append(puts, parts...)
			nodes = append(nodes, node.Plain{At: x.Path, Mode: x.Mode, Time: x.Time, Size: len(x.Data), Chunks: sums})
		}
	}
	text, e := node.Encode(nodes)
	ok(t, e)
	parts, _ := cut(t, text)
	return append(puts, parts...), text
}

// named: the name of a tree's manifest, whose bytes are written by the document's words.
func named(t *testing.T, sorted []api.Item, time int, tag, parent string) string {
	t.Helper()
	_, text := stored(t, sorted)
	_, sums := cut(t, text)
	out := binary.AppendUvarint([]byte("snap"), uint64(time))
	for _, s := range []string{tag, parent} {
		out = append(binary.AppendUvarint(out, uint64(len(s))), s...)
	}
	out = binary.AppendUvarint(out, uint64(len(text)))
	out = binary.AppendUvarint(out, uint64(len(sums)))
	return sha(string(out) + strings.Join(sums, ""))
}

// snapshot is one that was made, with its tree.
type snapshot struct {
	snap api.Snap
	tree []api.Item
}

// world is an engine, and what it is to answer: the snapshots that stand, and which chunks are in packs.
type world struct {
	t      *testing.T
	what   string
	d      *disk.Disk
	g      *Engine
	level  int
	stands []snapshot
	kept   map[string]struct{}
}

// fresh: a world of nothing.
func fresh(t *testing.T, room int) *world {
	t.Helper()
	d, e := disk.New(room)
	ok(t, e, Init(d))
	w := &world{t: t, what: "a world", d: d, level: 6, kept: map[string]struct{}{}}
	w.open()
	return w
}

// open: the engine is opened anew.
func (w *world) open() {
	w.t.Helper()
	g, e := Open(w.d, w.level)
	if e != api.OK {
		w.t.Fatalf("%s: Open: %d", w.what, e)
	}
	w.g = g
}

// last: the name of the last snapshot.
func (w *world) last() string {
	if len(w.stands) == 0 {
		return ""
	}
	return w.stands[len(w.stands)-1].snap.Id
}

// stats: what a backup of a tree would say, by the chunks that are kept.
func (w *world) stats(sorted []api.Item) (backup.Stats, []string) {
	w.t.Helper()
	puts, _ := stored(w.t, sorted)
	st := backup.Stats{All: len(puts)}
	met := maps.Clone(w.kept)
	for _, c := range puts {
		if _, is := met[sha(c)]; !is {
			met[sha(c)] = struct{}{}
			st.Fresh++
			st.Bytes += len(c)
		}
	}
	return st, puts
}

// adds: a snapshot stands from now on.
func (w *world) adds(id string, sorted []api.Item, time int, tag string) {
	if slices.ContainsFunc(w.stands, func(s snapshot) bool { return s.snap.Id == id }) {
		return
	}
	w.stands = append(w.stands, snapshot{api.Snap{Id: id, Time: time, Tag: tag}, sorted})
	slices.SortFunc(w.stands, func(a, b snapshot) int {
		if a.snap.Time != b.snap.Time {
			return a.snap.Time - b.snap.Time
		}
		return strings.Compare(a.snap.Id, b.snap.Id)
	})
}

// backup: a tree becomes a snapshot, and is answered as it is to be.
func (w *world) backup(sorted []api.Item, time int, tag string) string {
	w.t.Helper()
	want, puts := w.stats(sorted)
	name := named(w.t, sorted, time, tag, w.last())
	id, st, e := w.g.Backup(turned(sorted), time, tag)
	if id != name || st != want || e != api.OK {
		w.t.Fatalf("%s: Backup: %q, %v, %d, not %q, %v", w.what, id, st, e, name, want)
	}
	for _, c := range puts {
		w.kept[sha(c)] = struct{}{}
	}
	w.adds(id, sorted, time, tag)
	return id
}

// snaps: what List is to answer.
func (w *world) snaps() []api.Snap {
	var out []api.Snap
	for _, s := range w.stands {
		out = append(out, s.snap)
	}
	return out
}

// forgets: the names of the snapshots that a policy doesn't keep.
func (w *world) forgets(p retain.Policy) []string {
	w.t.Helper()
	gone, e := retain.Gone(p, w.snaps())
	ok(w.t, e)
	return gone
}

// drop: these don't stand any more.
func (w *world) drop(gone []string) {
	w.stands = slices.DeleteFunc(w.stands, func(s snapshot) bool { return slices.Contains(gone, s.snap.Id) })
}

// forget: Forget, answered as it is to be.
func (w *world) forget(p retain.Policy) {
	w.t.Helper()
	want := w.forgets(p)
	if gone, e := w.g.Forget(p); !slices.Equal(gone, want) || e != api.OK {
		w.t.Fatalf("%s: Forget: %v, %d, not %v", w.what, gone, e, want)
	}
	w.drop(want)
}

// needed: the chunks that the snapshots need, by their names.
func (w *world) needed() map[string]string {
	w.t.Helper()
	out := map[string]string{}
	for _, s := range w.stands {
		puts, _ := stored(w.t, s.tree)
		for _, c := range puts {
			out[sha(c)] = c
		}
	}
	return out
}

// collect: Collect, behind which the packs have just what is needed, each once; there is no file but these, the manifests and an empty log.
func (w *world) collect() {
	w.t.Helper()
	if e := w.g.Collect(); e != api.OK {
		w.t.Fatalf("%s: Collect: %d", w.what, e)
	}
	needed := w.needed()
	packed := unpacked(w.t, w.d)
	if len(packed) != len(needed) {
		w.t.Fatalf("%s: %d chunks in packs, %d are needed", w.what, len(packed), len(needed))
	}
	w.kept = map[string]struct{}{}
	for _, c := range packed {
		if _, is := needed[sha(c)]; !is {
			w.t.Fatalf("%s: not needed: %q", w.what, c)
		}
		w.kept[sha(c)] = struct{}{}
	}
	if len(w.kept) != len(packed) {
		w.t.Fatalf("%s: kept more than once", w.what)
	}
	want := []string{"log"}
	for _, s := range w.stands {
		want = append(want, "s"+s.snap.Id)
	}
	slices.Sort(want)
	left := slices.DeleteFunc(files(w.t, w.d, ""), func(name string) bool { return name[0] == 'p' && len(name) == 65 })
	log, _ := w.d.Read("log")
	if !slices.Equal(left, want) || log != "" {
		w.t.Fatalf("%s: left: %v, the log %q, not %v", w.what, left, log, want)
	}
}

// unpacked: the chunks of all packs of a disk, by the library.
func unpacked(t *testing.T, d *disk.Disk) []string {
	t.Helper()
	var out []string
	for _, name := range files(t, d, "p") {
		body, _ := d.Read(name)
		z, e := zip.NewReader(strings.NewReader(body), int64(len(body)))
		if e != nil || name != "p"+sha(body) {
			t.Fatalf("%s: %v", name, e)
		}
		for _, f := range z.File {
			r, e := f.Open()
			if e != nil {
				t.Fatal(e)
			}
			b, e := io.ReadAll(r)
			if e != nil || f.Name != sha(string(b)) {
				t.Fatalf("%s: %v", f.Name, e)
			}
			out = append(out, string(b))
		}
	}
	return out
}

// reread: which chunks are in packs, as the disk says, for a crash may have left more of them.
func (w *world) reread() {
	w.t.Helper()
	w.kept = map[string]struct{}{}
	for _, c := range unpacked(w.t, w.d) {
		w.kept[sha(c)] = struct{}{}
	}
}

// holds: List, Restore of each snapshot and Verify are answered as they are to be.
func (w *world) holds() {
	w.t.Helper()
	if l, e := w.g.List(); !slices.Equal(l, w.snaps()) || e != api.OK {
		w.t.Fatalf("%s: List: %v, %d, not %v", w.what, l, e, w.snaps())
	}
	for _, s := range w.stands {
		if l, e := w.g.Restore(s.snap.Id); !slices.Equal(l, s.tree) || e != api.OK {
			w.t.Fatalf("%s: Restore: %d, %.200v, not %.200v", w.what, e, l, s.tree)
		}
	}
	if bad, e := w.g.Verify(); len(bad) != 0 || e != api.OK {
		w.t.Fatalf("%s: Verify: %v, %d", w.what, bad, e)
	}
}

// policy: one by dice.
func policy(r *rand.Rand) retain.Policy {
	p := retain.Policy{Last: r.IntN(3), Daily: r.IntN(3), Weekly: r.IntN(2), Monthly: r.IntN(2)}
	if r.IntN(3) == 0 {
		p.Tags = []string{"kept"}
	}
	return p
}

// tag: one by dice.
func tag(r *rand.Rand) string {
	return []string{"", "kept", "other"}[r.IntN(3)]
}

// P25.1, P25.4: the chapter's example.
func TestExample(t *testing.T) {
	d, e := disk.New(room)
	ok(t, e, Init(d))
	g, e := Open(d, 6)
	ok(t, e)
	items := []api.Item{{Path: "a", Kind: api.File, Data: "hi"}}
	id, st, e := g.Backup(items, 5, "")
	if len(id) != 64 || st != (backup.Stats{Fresh: 2, Bytes: 2 + len("\x01\x02\x01a\x00\x00\x02\x01") + 32, All: 2}) || e != api.OK {
		t.Errorf("Backup: %q, %v, %d", id, st, e)
	}
	if l, e := g.Restore(id); !slices.Equal(l, items) || e != api.OK {
		t.Errorf("Restore: %v, %d", l, e)
	}
	if gone, e := g.Forget(retain.Policy{}); !slices.Equal(gone, []string{id}) || e != api.OK {
		t.Errorf("Forget: %v, %d", gone, e)
	}
	ok(t, g.Collect())
	if told(d) != `0 log ""` {
		t.Errorf("left: %s", told(d))
	}
}

// P25.1: a disk becomes one for an engine once; whatever its log says.
func TestInit(t *testing.T) {
	d, _ := disk.New(0)
	ok(t, Init(d))
	if told(d) != `0 log ""` {
		t.Errorf("Init: %s", told(d))
	}
	for _, log := range []string{"", "torn", wal.Frame("drop"), wal.Frame("what")} {
		d, _ := disk.New(1000)
		written(t, d, "log", log)
		before := told(d)
		is(t, "there is a log", Init(d), api.ErrThere)
		killed(d)
		is(t, "there is a log, dead", Init(d), api.ErrDead)
		d.Crash()
		if told(d) != before {
			t.Errorf("the disk has changed: %s", told(d))
		}
	}
	d, _ = disk.New(1000)
	written(t, d, "log.new", "?")
	written(t, d, "tmp", "?")
	ok(t, Init(d))
	d.Crash()
	if told(d) != `0 log "" tmp "?"` {
		t.Errorf("other files: %s", told(d))
	}
}

// P25.3: Init that dies: behind a crash it has been done, or may be done.
func TestInitCrashes(t *testing.T) {
	for n := 0; ; n++ {
		died := false
		for i, keep := range keeps(n) {
			d, _ := disk.New(1000)
			d.Arm(n)
			e := Init(d)
			died = e == api.ErrDead
			if !died {
				ok(t, e)
			}
			d.Crash(keep...)
			if _, e := Open(d, 6); e == api.ErrAbsent && died {
				ok(t, Init(d))
			} else {
				ok(t, e)
			}
			is(t, fmt.Sprintf("dying behind %d, crash %d: again", n, i), Init(d), api.ErrThere)
			_, e = Open(d, 6)
			ok(t, e)
			if told(d) != `0 log ""` {
				t.Errorf("dying behind %d, crash %d: %s", n, i, told(d))
			}
		}
		if !died {
			break
		}
	}
}

// P25.1: the errors of Open, in their order; none of them changes the disk.
func TestOpenRefused(t *testing.T) {
	refused := func(what string, d *disk.Disk, level int, want api.Errno) {
		t.Helper()
		before := told(d)
		if g, e := Open(d, level); g != nil || e != want {
			t.Errorf("%s: %v, %d, not %d", what, g != nil, e, want)
		}
		if told(d) != before {
			t.Errorf("%s: the disk has changed", what)
		}
	}
	d, _ := disk.New(1000)
	written(t, d, "tmp", "?")
	for _, level := range []int{-1, 10, math.MinInt, math.MaxInt} {
		refused("level", d, level, api.ErrArg)
	}
	refused("no log", d, 6, api.ErrAbsent)
	for _, record := range []string{"", "what", "gone s" + sha("x"), "drop p" + sha("x"), "drop  s" + sha("x"), "drop s"} {
		d, _ := disk.New(1000)
		written(t, d, "log", wal.Frame(record))
		written(t, d, "tmp", "?")
		refused("the log says "+record, d, 6, api.ErrLoss)
		refused("the log says "+record, d, 10, api.ErrArg)
	}
	killed(d)
	refused("dead", d, 6, api.ErrDead)
	refused("dead", d, 10, api.ErrArg)
}

// P25.1, P25.3: what was under way is brought to its end, or undone; opened again nothing changes.
func TestOpenFinishes(t *testing.T) {
	w := fresh(t, room)
	a := w.backup(garden("one "), 5, "")
	w.backup(garden("two "), 6, "")
	junk := "p" + sha("junk")
	written(t, w.d, junk, "junk")
	written(t, w.d, "tmp", "half a pack")
	written(t, w.d, "log", wal.Frame("drop s"+a)+wal.Frame("gone "+junk)+"torn")
	w.open()
	w.drop([]string{a})
	w.holds()
	if log, _ := w.d.Read("log"); log != "" || len(files(t, w.d, "tmp")) != 0 || slices.Contains(files(t, w.d, "p"), junk) {
		t.Errorf("left: %v, the log %q", files(t, w.d, ""), log)
	}
	w.again()
	w.collect()
}

// again: Open again changes nothing.
func (w *world) again() {
	w.t.Helper()
	before := told(w.d)
	w.d.Arm(-1)
	w.open()
	if told(w.d) != before {
		w.t.Fatalf("%s: Open again has changed the disk", w.what)
	}
}

// P25.1: the level by which packs are deflated, also those of a collection.
func TestLevels(t *testing.T) {
	used := map[int]int{}
	for _, level := range []int{0, 9} {
		w := fresh(t, room)
		w.level = level
		w.open()
		long := garden("deflated well, ")
		w.backup(append(long, api.Item{Path: "m", Kind: api.File, Data: "more"}), 1, "")
		used[level] = w.d.Used()
		pack := files(t, w.d, "p")[0]
		w.backup(long, 2, "")
		w.forget(retain.Policy{Last: 1})
		w.collect()
		w.holds()
		used[level+1] = w.d.Used()
		if slices.Contains(files(t, w.d, "p"), pack) {
			t.Error("nothing was moved")
		}
	}
	if used[0] < used[9]+100 || used[1] < used[10]+100 {
		t.Errorf("bytes by levels: %v", used)
	}
}

// P25.1, P25.4: scripts by dice: each answer is that of the snapshots that were made, and not forgotten; also when the engine is opened anew.
func TestByDice(t *testing.T) {
	for seed := range 12 {
		r := dice(seed)
		w := fresh(t, room)
		for step := range 40 {
			w.what = fmt.Sprintf("script %d, step %d", seed, step)
			switch r.IntN(9) {
			case 0:
				w.forget(policy(r))
			case 1:
				w.collect()
			case 2:
				w.d.Crash(r.IntN(9), r.IntN(9))
				w.open()
			default:
				w.backup(forest(r), r.IntN(20)*20000, tag(r))
			}
			w.holds()
		}
		w.forget(retain.Policy{Last: 1})
		w.collect()
		w.forget(retain.Policy{})
		w.collect()
		w.holds()
		if told(w.d) != `0 log ""` {
			t.Errorf("script %d: left: %s", seed, told(w.d))
		}
	}
}

// P25.1: great trees, of which chunks are in packs before all are told.
func TestGreat(t *testing.T) {
	w := fresh(t, room)
	a := w.backup(great(1), 1, "")
	if n := len(files(t, w.d, "p")); n != 2 {
		t.Errorf("%d packs", n)
	}
	w.backup(file(noise(dice(2), api.MaxFile)), 2, "")
	w.backup(great(1), 3, "")
	w.holds()
	w.open()
	w.holds()
	w.forget(retain.Policy{Last: 1})
	if _, e := w.g.Restore(a); e != api.ErrAbsent {
		t.Errorf("forgotten: %d", e)
	}
	w.collect()
	w.holds()
}

// P25.1: the same tree again has no new chunk, but another manifest, whose parent is the last one by time, whenever it was made.
func TestParent(t *testing.T) {
	w := fresh(t, room)
	late := w.backup(garden("one "), 100, "x")
	early := w.backup(garden("one "), 5, "")
	if m, e := manifest.Load(w.d, early); m.Parent != late || e != api.OK {
		t.Errorf("parent %q, %d", m.Parent, e)
	}
	if m, e := manifest.Load(w.d, late); m.Parent != "" || m.Time != 100 || m.Tag != "x" || e != api.OK {
		t.Errorf("parent %q, %d", m.Parent, e)
	}
	// Its parent is the same one again, and so is its name.
	if again := w.backup(garden("one "), 5, ""); again != early {
		t.Errorf("another name")
	}
	w.holds()
	if l, _ := w.g.List(); len(l) != 2 {
		t.Errorf("%d snapshots", len(l))
	}
	// Of one time the greater name is the last.
	w.backup(garden("two "), 100, "")
	w.backup(garden("three "), 100, "")
	w.backup(garden("four "), 100, "")
	w.holds()
	// A spoilt one is nobody's parent.
	last := w.last()
	flipped(t, w.d, "s"+last, 0)
	w.drop([]string{last})
	w.backup(garden("five "), 101, "")
}

// P25.1, P25.2: a snapshot that is there already, name for name, stays one, and needs no room; one with another name does.
func TestThereAlready(t *testing.T) {
	w := fresh(t, room)
	w.backup(garden("one "), 100, "")
	w.backup(garden("one "), 5, "")
	w = w.other(w.d.Used())
	before := told(w.d)
	w.backup(garden("one "), 5, "")
	w.same(before)
	if id, st, e := w.g.Backup(garden("one "), 6, ""); id != "" || st != (backup.Stats{}) || e != api.ErrSpace {
		t.Errorf("%q, %v, %d", id, st, e)
	}
	w.same(before)
}

// same: a call that was refused has changed nothing on the disk, nor what the engine says.
func (w *world) same(before string) {
	w.t.Helper()
	if told(w.d) != before {
		w.t.Fatalf("%s: the disk has changed", w.what)
	}
	w.holds()
}

// P25.1: the errors of Backup, in their order; nothing is changed by it.
func TestBackupRefused(t *testing.T) {
	wrong := []api.Item{{Path: "a/b", Kind: api.File, Data: "text"}}
	cases := map[string]struct {
		items []api.Item
		time  int
		tag   string
		want  api.Errno
	}{
		"time below 0":         {nil, -1, "", api.ErrForm},
		"least time":           {wrong, math.MinInt, "", api.ErrForm},
		"time above the most":  {nil, api.MaxTime + 1, "", api.ErrForm},
		"a path as tag":        {nil, 5, "x/y", api.ErrForm},
		"a tag of dots":        {nil, 5, "..", api.ErrForm},
		"a broken tag":         {wrong, 5, "\xff", api.ErrForm},
		"a tag too long":       {nil, 5, strings.Repeat("x", 61), api.ErrForm},
		"no folder":            {wrong, 5, "", api.ErrAbsent},
		"no path":              {[]api.Item{{Path: "a//b", Kind: api.File}}, 5, "", api.ErrPath},
		"no kind":              {[]api.Item{{Path: "a"}}, 5, "", api.ErrKind},
		"mode":                 {[]api.Item{{Path: "a", Kind: api.Dir, Mode: 512}}, 5, "", api.ErrForm},
		"twice":                {append(file("text"), file("text")...), 5, "", api.ErrThere},
		"too long":             {file(strings.Repeat("x", api.MaxFile+1)), 5, "", api.ErrBig},
		"more items than most": {make([]api.Item, api.MaxNodes+1), 5, "", api.ErrBig},
	}
	for what, c := range cases {
		w := fresh(t, room)
		w.what = what
		w.backup(garden("one "), 1, "")
		before := told(w.d)
		w.d.Arm(0)
		if id, st, e := w.g.Backup(c.items, c.time, c.tag); id != "" || st != (backup.Stats{}) || e != c.want {
			t.Errorf("%s: %q, %v, %d, not %d", what, id, st, e, c.want)
		}
		w.d.Arm(-1)
		w.same(before)
		w.backup(garden("two "), 2, "")
		killed(w.d)
		want := api.ErrDead
		if c.want == api.ErrForm && what != "mode" {
			want = api.ErrForm
		}
		if id, st, e := w.g.Backup(c.items, c.time, c.tag); id != "" || st != (backup.Stats{}) || e != want {
			t.Errorf("%s, dead: %q, %v, %d, not %d", what, id, st, e, want)
		}
	}
	w := fresh(t, room)
	w.backup(nil, 0, strings.Repeat("é", 30))
	w.backup(garden("one "), api.MaxTime, "日")
	w.holds()
}

// P25.1: as many snapshots as there may be; spoilt ones count, and so does one more that is there already.
func TestMost(t *testing.T) {
	full := func(what string, w *world, items []api.Item, want api.Errno) {
		t.Helper()
		before := told(w.d)
		if id, st, e := w.g.Backup(items, 7, ""); id != "" || st != (backup.Stats{}) || e != want {
			t.Errorf("%s: %q, %v, %d, not %d", what, id, st, e, want)
		}
		if told(w.d) != before {
			t.Errorf("%s: the disk has changed", what)
		}
	}
	w := fresh(t, room)
	for i := range api.MaxSnaps {
		w.backup(file(fmt.Sprint("text ", i)), 100-i, "")
	}
	w.holds()
	full("one more", w, file("one more"), api.ErrBig)
	full("a great one more", w, great(1), api.ErrBig)
	full("one that is there", w, file(fmt.Sprint("text ", api.MaxSnaps-1)), api.ErrBig)
	full("a wrong one", w, []api.Item{{Path: "a/b", Kind: api.Dir}}, api.ErrAbsent)
	w.holds()
	first := w.stands[0].snap.Id
	flipped(t, w.d, "s"+first, 3)
	w.drop([]string{first})
	full("with a spoilt one", w, file("one more"), api.ErrBig)
	w.forget(retain.Policy{Last: api.MaxSnaps - 2})
	w.backup(great(1), 3, "")
	full("one more again", w, file("one more"), api.ErrBig)
	// All go at once.
	w.forget(retain.Policy{})
	if l := files(t, w.d, "s"); !slices.Equal(l, []string{"s" + first}) {
		t.Errorf("left: %v", l)
	}
}

// P25.1: names that no snapshot has.
func TestRestoreRefused(t *testing.T) {
	w := fresh(t, room)
	id := w.backup(garden("one "), 1, "")
	refused := func(what, id string, want api.Errno) {
		t.Helper()
		if l, e := w.g.Restore(id); len(l) != 0 || e != want {
			t.Errorf("%s: %d items, %d, not %d", what, len(l), e, want)
		}
	}
	for _, no := range []string{"", "x", id[1:], id + "0", strings.ToUpper(id), "s" + id, "\x00"} {
		refused("no name", no, api.ErrForm)
	}
	refused("another name", sha(id), api.ErrAbsent)
	refused("a pack's name", files(t, w.d, "p")[0][1:], api.ErrAbsent)
	flipped(t, w.d, "s"+id, 20)
	refused("spoilt", id, api.ErrLoss)
	flipped(t, w.d, "s"+id, 20)
	pack := files(t, w.d, "p")[0]
	flipped(t, w.d, pack, 20)
	refused("a spoilt pack", id, api.ErrLoss)
	w.open()
	refused("a spoilt pack, opened anew", id, api.ErrLoss)
	flipped(t, w.d, pack, 20)
	w.open()
	ok(t, w.d.Remove(pack))
	refused("a pack is wanting", id, api.ErrLoss)
	killed(w.d)
	refused("dead", id, api.ErrDead)
	refused("dead", "x", api.ErrForm)
}

// P25.1: what a policy keeps stays; a wrong one is refused; where nothing goes the disk isn't touched.
func TestForget(t *testing.T) {
	w := fresh(t, room)
	w.forget(retain.Policy{})
	a, b := w.backup(garden("one "), 100, "x"), w.backup(garden("one "), 90000, "")
	w.backup(garden("two "), 90001, "")
	for _, p := range []retain.Policy{{Last: -1}, {Daily: -1}, {Weekly: -1}, {Monthly: math.MinInt}} {
		before := told(w.d)
		if gone, e := w.g.Forget(p); len(gone) != 0 || e != api.ErrArg {
			t.Errorf("%v: %v, %d", p, gone, e)
		}
		w.same(before)
	}
	before := told(w.d)
	w.d.Arm(0)
	w.forget(retain.Policy{Last: 3})
	w.forget(retain.Policy{Tags: []string{"x", ""}})
	w.d.Arm(-1)
	w.same(before)
	if gone, e := w.g.Forget(retain.Policy{Daily: 1}); !slices.Equal(gone, []string{a, b}) || e != api.OK {
		t.Errorf("Forget: %v, %d", gone, e)
	}
	w.drop([]string{a, b})
	w.holds()
	w.collect()
	w.holds()
	killed(w.d)
	if gone, e := w.g.Forget(retain.Policy{}); len(gone) != 0 || e != api.ErrDead {
		t.Errorf("dead: %v, %d", gone, e)
	}
}

// P25.1: a spoilt manifest is no snapshot of List, so it doesn't go; one whose tree is spoilt does.
func TestForgetSpoilt(t *testing.T) {
	w := fresh(t, room)
	a := w.backup(garden("one "), 1, "")
	pack := files(t, w.d, "p")[0]
	b := w.backup(file("two"), 2, "")
	flipped(t, w.d, "s"+b, 9)
	flipped(t, w.d, pack, 9)
	w.drop([]string{b})
	if l, e := w.g.List(); !slices.Equal(l, w.snaps()) || e != api.OK {
		t.Errorf("List: %v, %d", l, e)
	}
	both := slices.Sorted(slices.Values([]string{a, b}))
	if bad, e := w.g.Verify(); !slices.Equal(bad, both) || e != api.OK {
		t.Errorf("Verify: %v, %d", bad, e)
	}
	w.forget(retain.Policy{})
	if l := files(t, w.d, "s"); !slices.Equal(l, []string{"s" + b}) {
		t.Errorf("left: %v", l)
	}
	if bad, e := w.g.Verify(); !slices.Equal(bad, []string{b}) || e != api.OK {
		t.Errorf("Verify: %v, %d", bad, e)
	}
}

// P25.1: Verify names all that can't be restored, rising, whether a manifest is spoilt or a pack.
func TestVerify(t *testing.T) {
	w := fresh(t, room)
	packs := map[string]string{}
	for i := range 6 {
		before := files(t, w.d, "p")
		id := w.backup(file(noise(dice(i), 200)), 10-i, "")
		for _, name := range files(t, w.d, "p") {
			if !slices.Contains(before, name) {
				packs[id] = name
			}
		}
	}
	r := dice(1)
	for range 20 {
		var spoilt, want []string
		for _, s := range w.stands {
			id := s.snap.Id
			if name := []string{"s" + id, packs[id], ""}[r.IntN(3)]; name != "" {
				spoilt = append(spoilt, name)
				want = append(want, id)
				flipped(t, w.d, name, 5)
			}
		}
		slices.Sort(want)
		for range 2 {
			if bad, e := w.g.Verify(); !slices.Equal(bad, want) || e != api.OK {
				t.Errorf("Verify: %v, %d, not %v", bad, e, want)
			}
			w.open()
		}
		for _, name := range spoilt {
			flipped(t, w.d, name, 5)
		}
		w.open()
		w.holds()
	}
	killed(w.d)
	if bad, e := w.g.Verify(); len(bad) != 0 || e != api.ErrDead {
		t.Errorf("dead: %v, %d", bad, e)
	}
	if l, e := w.g.List(); len(l) != 0 || e != api.ErrDead {
		t.Errorf("dead: %v, %d", l, e)
	}
}

// P25.4: where anything is spoilt nothing is collected.
func TestCollectLoss(t *testing.T) {
	for _, front := range []string{"s", "p"} {
		w := fresh(t, room)
		w.backup(garden("one "), 1, "")
		w.backup(garden("two "), 2, "")
		w.forget(retain.Policy{Last: 1})
		name := files(t, w.d, front)[0]
		for _, anew := range []bool{false, true} {
			flipped(t, w.d, name, 5)
			if anew {
				w.open()
			}
			before := told(w.d)
			is(t, "spoilt "+front, w.g.Collect(), api.ErrLoss)
			if told(w.d) != before {
				t.Errorf("spoilt %s: the disk has changed", front)
			}
			flipped(t, w.d, name, 5)
		}
		// The store was opened when the pack was spoilt; a collection opens it anew.
		w.collect()
		w.holds()
		killed(w.d)
		is(t, "dead", w.g.Collect(), api.ErrDead)
	}
}

// P25.4: a collection opens the store anew, so that what it finds spoilt is kept anew by the next backup; and what it took away is new again.
func TestCollectOpensAnew(t *testing.T) {
	w := fresh(t, room)
	w.backup(garden("one "), 1, "")
	w.backup(garden("two "), 2, "")
	w.forget(retain.Policy{Last: 1})
	w.collect()
	w.backup(garden("one "), 3, "")
	w.holds()
	flipped(t, w.d, files(t, w.d, "p")[0], 7)
	is(t, "spoilt", w.g.Collect(), api.ErrLoss)
	for i, text := range []string{"one ", "two "} {
		if _, st, e := w.g.Backup(garden(text), 4+i, ""); st.All == 0 || e != api.OK {
			t.Errorf("%v, %d", st, e)
		}
		l, e := w.g.List()
		ok(t, e)
		if l, e := w.g.Restore(l[len(l)-1].Id); !slices.Equal(l, garden(text)) || e != api.OK {
			t.Errorf("Restore: %d", e)
		}
	}
}

// keeps: what crashes keep of what wasn't safe: nothing, all, and some by dice.
func keeps(seed int) [][]int {
	r := dice(seed)
	out := [][]int{{}, {1}, {0, 1}, {1, 0, 0}}
	for range 3 {
		var l []int
		for range 5 + r.IntN(9) {
			l = append(l, r.IntN(400))
		}
		out = append(out, l)
	}
	return out
}

// scene: a world with snapshots, and chunks that none of them needs.
func scene(t *testing.T) *world {
	t.Helper()
	w := fresh(t, room)
	w.backup(garden("one "), 100, "kept")
	w.backup(file(noise(dice(1), 700)), 200, "")
	w.backup(garden("two "), 90000, "")
	w.forget(retain.Policy{Last: 1, Tags: []string{"kept"}})
	w.backup(file(noise(dice(2), 500)), 90001, "")
	return w
}

// other: the same world on a disk of its own.
func (w *world) other(room int) *world {
	w.t.Helper()
	out := *w
	out.d = copied(w.t, w.d, room)
	out.stands = slices.Clone(w.stands)
	out.kept = maps.Clone(w.kept)
	out.open()
	return &out
}

// deed is a call that may change what stands: do makes it, and done is how the world is told of it then.
type deed struct {
	what string
	do   func(w *world) api.Errno
	done func(w *world)
}

// backing: the deed of a backup.
func backing(what string, tree []api.Item) deed {
	return deed{what, func(w *world) api.Errno {
		_, _, e := w.g.Backup(tree, 90002, "new")
		return e
	}, func(w *world) {
		w.adds(named(w.t, tree, 90002, "new", w.last()), tree, 90002, "new")
	}}
}

// deeds: one of each kind.
func deeds() []deed {
	p := retain.Policy{Daily: 1}
	return []deed{
		backing("backup", garden("three ")),
		backing("backup of nothing", nil),
		backing("great backup", great(3)),
		{"forget", func(w *world) api.Errno {
			_, e := w.g.Forget(p)
			return e
		}, func(w *world) { w.drop(w.forgets(p)) }},
		{"forget all", func(w *world) api.Errno {
			_, e := w.g.Forget(retain.Policy{})
			return e
		}, func(w *world) { w.stands = nil }},
		{"collect", func(w *world) api.Errno { return w.g.Collect() }, func(w *world) {}},
	}
}

// behind: a crash, and Open, which may die as well, so many times behind so many calls.
func (w *world) behind(r *rand.Rand, keep []int, deaths int) {
	w.t.Helper()
	w.d.Crash(keep...)
	for range deaths {
		w.d.Arm(r.IntN(12))
		_, e := Open(w.d, w.level)
		if e != api.OK && e != api.ErrDead {
			w.t.Fatalf("%s: Open that dies: %d", w.what, e)
		}
		w.d.Crash(r.IntN(300), r.IntN(300), r.IntN(300))
	}
	w.open()
}

// settled: the snapshots are those from ahead of a deed or from behind it; if it was done, from behind it.
func (w *world) settled(do deed, was api.Errno) {
	w.t.Helper()
	l, e := w.g.List()
	ok(w.t, e)
	if was == api.OK || !slices.Equal(l, w.snaps()) {
		do.done(w)
	}
	w.holds()
	if len(files(w.t, w.d, "tmp")) != 0 || len(files(w.t, w.d, "log")) != 1 {
		w.t.Fatalf("%s: left: %v", w.what, files(w.t, w.d, ""))
	}
	w.again()
	w.reread()
}

// P25.3: wherever the disk dies, and whatever a crash keeps, Open included.
func TestCrashes(t *testing.T) {
	first := scene(t)
	for _, do := range deeds() {
		for n := 0; ; n++ {
			died := false
			for i, keep := range keeps(n) {
				if do.what == "great backup" && i != n%7 {
					continue
				}
				w := first.other(room)
				w.what = fmt.Sprintf("%s, dying behind %d, crash %d", do.what, n, i)
				w.d.Arm(n)
				e := do.do(w)
				died = e == api.ErrDead
				if !died {
					ok(t, e)
				}
				w.behind(dice(n), keep, i%3)
				w.settled(do, e)
				w.backup(garden("four "), 90003, "")
				w.collect()
				w.holds()
			}
			if !died {
				break
			}
		}
	}
}

// P25.3: Open that dies behind each call, and what was under way is done in the end, or isn't.
func TestOpenCrashes(t *testing.T) {
	first := scene(t)
	for _, do := range deeds() {
		for n := 0; ; n++ {
			died := false
			for m := 0; ; m++ {
				w := first.other(room)
				w.what = fmt.Sprintf("%s, dying behind %d, Open behind %d", do.what, n, m)
				w.d.Arm(n)
				e := do.do(w)
				died = e == api.ErrDead
				r := dice(n)
				w.d.Crash(r.IntN(90), r.IntN(90), r.IntN(90), r.IntN(90))
				w.d.Arm(m)
				_, opened := Open(w.d, w.level)
				w.behind(r, []int{r.IntN(90), r.IntN(90), r.IntN(90)}, 0)
				w.settled(do, e)
				if opened == api.OK {
					break
				}
				is(t, w.what, opened, api.ErrDead)
			}
			if !died {
				break
			}
		}
	}
}

// P25.3: scripts by dice, with a disk that dies here and there.
func TestCrashesByDice(t *testing.T) {
	for seed := range 12 {
		r := dice(1000 + seed)
		w := fresh(t, room)
		for step := range 30 {
			w.what = fmt.Sprintf("script %d, step %d", seed, step)
			p, tree, time := policy(r), forest(r), r.IntN(20)*20000
			do := []deed{{"forget", func(w *world) api.Errno {
				_, e := w.g.Forget(p)
				return e
			}, func(w *world) { w.drop(w.forgets(p)) }}, {"collect", func(w *world) api.Errno {
				return w.g.Collect()
			}, func(w *world) {}}, {"backup", func(w *world) api.Errno {
				_, _, e := w.g.Backup(tree, time, "")
				return e
			}, func(w *world) {
				w.adds(named(t, tree, time, "", w.last()), tree, time, "")
			}}}[min(r.IntN(5), 2)]
			w.d.Arm(r.IntN(25))
			e := do.do(w)
			if e != api.OK && e != api.ErrDead {
				t.Fatalf("%s: %s: %d", w.what, do.what, e)
			}
			w.behind(r, []int{r.IntN(90), r.IntN(90), r.IntN(90), r.IntN(90), r.IntN(90)}, r.IntN(3))
			w.settled(do, e)
		}
		w.collect()
		w.holds()
	}
}

// P25.2: what the disk has no room for is refused, and leaves all as it was: the disk, what the engine says, and what it answers to all that is done then; with room it is done.
func TestFull(t *testing.T) {
	first := scene(t)
	used := first.d.Used()
	for _, do := range deeds() {
		step := 37
		if do.what == "great backup" {
			step = 1777
		}
		full := 0
		for more := 0; ; more += step {
			w := first.other(used + more)
			w.what = fmt.Sprintf("%s with %d more", do.what, more)
			before := told(w.d)
			e := do.do(w)
			if e == api.OK {
				do.done(w)
				w.holds()
				break
			}
			full++
			is(t, w.what, e, api.ErrSpace)
			w.same(before)
			w.likewise(first.other(used + more))
			w = first.other(used + more)
			is(t, w.what, do.do(w), api.ErrSpace)
			w.d.Crash(dice(more).IntN(2))
			w.same(before)
			w.again()
		}
		if full == 0 {
			t.Errorf("%s was never too great", do.what)
		}
	}
}

// likewise: whatever is done next in a world is answered as in another one.
func (w *world) likewise(twin *world) {
	w.t.Helper()
	for i := range 3 {
		tree := append(garden("two ")[:2], api.Item{Path: "x", Kind: api.File, Data: strings.Repeat("x", 10*i)})
		a, st, e := w.g.Backup(tree, 90004+i, "")
		b, st2, e2 := twin.g.Backup(tree, 90004+i, "")
		if a != b || st != st2 || e != e2 {
			w.t.Fatalf("%s: Backup: %q, %v, %d, not %q, %v, %d", w.what, a, st, e, b, st2, e2)
		}
		p := retain.Policy{Last: len(w.stands) - i}
		gone, e := w.g.Forget(p)
		gone2, e2 := twin.g.Forget(p)
		if !slices.Equal(gone, gone2) || e != e2 {
			w.t.Fatalf("%s: Forget: %v, %d, not %v, %d", w.what, gone, e, gone2, e2)
		}
		if e, e2 := w.g.Collect(), twin.g.Collect(); e != e2 {
			w.t.Fatalf("%s: Collect: %d, not %d", w.what, e, e2)
		}
		if told(w.d) != told(twin.d) {
			w.t.Fatalf("%s: not the same disk", w.what)
		}
	}
}

// P25.2: a great tree that fits but for its manifest, or its last pack: its first packs don't stay.
func TestFullAtTheEnd(t *testing.T) {
	w := fresh(t, room)
	w.backup(great(1), 1, "")
	used := w.d.Used()
	for _, less := range []int{1, 200, 2000, 12000} {
		w := fresh(t, used-less)
		w.what = fmt.Sprint("less by ", less)
		w.backup(file("text"), 1, "")
		before := told(w.d)
		for range 2 {
			if id, st, e := w.g.Backup(great(1), 1, ""); id != "" || st != (backup.Stats{}) || e != api.ErrSpace {
				t.Errorf("%s: %q, %v, %d", w.what, id, st, e)
			}
			w.same(before)
		}
		w.backup(garden("one "), 2, "")
		w.holds()
	}
}

// P25.2, P25.3: a disk that is full, and dies as well, also while what was begun is undone.
func TestFullCrashes(t *testing.T) {
	first := scene(t)
	used := first.d.Used()
	do := backing("great backup", great(3))
	for _, more := range []int{0, 33000, 52000} {
		for n := 0; ; n++ {
			w := first.other(used + more)
			w.what = fmt.Sprintf("with %d more, dying behind %d", more, n)
			w.d.Arm(n)
			e := do.do(w)
			// That it has died is told even where it is full.
			_, alive := w.d.List()
			w.behind(dice(n), keeps(n)[n%7], n%2)
			w.settled(do, e)
			if alive == api.OK {
				is(t, w.what, e, api.ErrSpace)
				break
			}
			is(t, w.what, e, api.ErrDead)
		}
	}
}

// sure: what is restored of each snapshot that was ever made is its tree, or an error; where Verify names none, each one of List is restored.
func sure(t *testing.T, what string, g *Engine, trees map[string][]api.Item) {
	t.Helper()
	bad, e := g.Verify()
	ok(t, e)
	snaps, e := g.List()
	ok(t, e)
	for _, id := range slices.Sorted(maps.Keys(trees)) {
		l, e := g.Restore(id)
		if e == api.OK && !slices.Equal(l, trees[id]) || e != api.OK && len(l) != 0 {
			t.Fatalf("%s: Restore: %d, %.300v, not %.300v", what, e, l, trees[id])
		}
		listed := slices.ContainsFunc(snaps, func(s api.Snap) bool { return s.Id == id })
		if listed && (e == api.OK) == slices.Contains(bad, id) {
			t.Fatalf("%s: Restore: %d, while Verify names %v", what, e, bad)
		}
	}
	if !slices.IsSorted(bad) {
		t.Fatalf("%s: Verify: %v", what, bad)
	}
}

// trees: those of the snapshots that stand, by their names.
func (w *world) trees() map[string][]api.Item {
	out := map[string][]api.Item{}
	for _, s := range w.stands {
		out[s.snap.Id] = s.tree
	}
	return out
}

// P25.5: each byte that is spoilt, whether the engine is opened anew or not.
func TestSure(t *testing.T) {
	w := scene(t)
	trees := w.trees()
	for _, name := range files(t, w.d, "") {
		body, e := w.d.Read(name)
		ok(t, e)
		for at := range len(body) {
			if name[0] == 'p' && at%13 != 0 {
				continue
			}
			what := fmt.Sprintf("%s, byte %d", name, at)
			ok(t, w.d.Spoil(name, at, body[at]^byte(1+at%255)))
			g := w.g
			if at%2 == 0 {
				g, e = Open(w.d, 6)
				ok(t, e)
			}
			sure(t, what, g, trees)
			if bad, _ := g.Verify(); len(bad) == 0 && !slices.Contains([]string{"log"}, name) && w.needs(name) {
				t.Fatalf("%s: nothing is named", what)
			}
			ok(t, w.d.Spoil(name, at, body[at]))
		}
	}
	w.holds()
}

// needs: has a pack a chunk that the snapshots need, or is it a manifest?
func (w *world) needs(name string) bool {
	body, _ := w.d.Read(name)
	for chunk := range w.needed() {
		if name[0] == 's' || strings.Contains(body, chunk) {
			return true
		}
	}
	return false
}

// P25.5: scripts by dice, with bytes that are spoilt, crashes, and disks with little room.
func TestSureByDice(t *testing.T) {
	for seed := range 18 {
		r := dice(2000 + seed)
		d, e := disk.New([]int{room, 20000, 6000}[seed%3])
		ok(t, e, Init(d))
		g, e := Open(d, 6)
		ok(t, e)
		trees := map[string][]api.Item{}
		for step := range 60 {
			what := fmt.Sprintf("script %d, step %d", seed, step)
			e := api.OK
			switch r.IntN(12) {
			case 0:
				_, e = g.Forget(policy(r))
			case 1:
				e = g.Collect()
			case 2, 3:
				if names := files(t, d, ""); len(names) > 1 {
					name := names[1+r.IntN(len(names)-1)]
					body, _ := d.Read(name)
					ok(t, d.Spoil(name, r.IntN(len(body)), byte(r.IntN(256))))
				}
			case 4:
				d.Arm(r.IntN(30))
			case 5:
				d.Crash(r.IntN(50), r.IntN(50), r.IntN(50))
				g, e = Open(d, 6)
				ok(t, e)
			default:
				tree := forest(r)
				var id string
				if id, _, e = g.Backup(tree, r.IntN(5)*50000, tag(r)); e == api.OK {
					trees[id] = tree
				}
			}
			if e == api.ErrDead {
				d.Crash(r.IntN(50), r.IntN(50), r.IntN(50))
				g, e = Open(d, 6)
				ok(t, e)
			}
			if e != api.OK && e != api.ErrLoss && e != api.ErrSpace {
				t.Fatalf("%s: %d", what, e)
			}
			d.Arm(-1)
			sure(t, what, g, trees)
		}
	}
}

// P25.5: a log that is spoilt takes nothing away but what it named.
func TestSureLog(t *testing.T) {
	first := scene(t)
	record := wal.Frame("drop s" + first.stands[0].snap.Id)
	for at := range len(record) {
		w := first.other(room)
		trees := w.trees()
		ok(t, w.d.Append("log", record), w.d.Sync("log"))
		flipped(t, w.d, "log", at)
		w.open()
		w.what = fmt.Sprint("byte ", at)
		w.holds()
		sure(t, w.what, w.g, trees)
	}
}

// P25.5: a backup of what was spoilt makes it whole again, if the engine knows of it.
func TestMended(t *testing.T) {
	w := fresh(t, room)
	id := w.backup(garden("one "), 1, "")
	flipped(t, w.d, files(t, w.d, "p")[0], 50)
	flipped(t, w.d, "s"+id, 50)
	w.open()
	again, st, e := w.g.Backup(garden("one "), 1, "")
	if again != id || st.Fresh == 0 || e != api.OK {
		t.Errorf("Backup: %q, %v, %d", again, st, e)
	}
	w.holds()
	w.collect()
}

// P25.1: what is handed in isn't changed, nor the room behind it; answers are new memory.
func TestNotChanged(t *testing.T) {
	w := fresh(t, room)
	all := append(turned(garden("one ")), api.Item{Path: "spare"}, api.Item{Path: "spare"})
	before := slices.Clone(all)
	id, _, e := w.g.Backup(all[:len(all)-2], 1, "x")
	ok(t, e)
	w.adds(id, garden("one "), 1, "x")
	clear(all)
	w.holds()
	copy(all, before)
	if _, _, e := w.g.Backup(all[:len(all)-1], 1, "x"); e != api.ErrKind || !slices.Equal(all, before) {
		t.Errorf("items have changed, or %d", e)
	}
	l, _ := w.g.List()
	clear(l)
	items, _ := w.g.Restore(id)
	clear(items)
	w.holds()
	flipped(t, w.d, "s"+id, 3)
	bad, _ := w.g.Verify()
	bad[0] = ""
	if bad, _ := w.g.Verify(); !slices.Equal(bad, []string{id}) {
		t.Errorf("Verify: %v", bad)
	}
	flipped(t, w.d, "s"+id, 3)
	tags := []string{"y", "x", "z"}
	p := retain.Policy{Tags: tags[:1]}
	gone, e := w.g.Forget(p)
	if !slices.Equal(gone, []string{id}) || e != api.OK || !slices.Equal(tags, []string{"y", "x", "z"}) {
		t.Errorf("Forget: %v, %d, %v", gone, e, tags)
	}
	gone[0] = ""
	w.drop([]string{id})
	w.holds()
	w.open()
	w.holds()
}
