package mark

import (
	"crypto/sha256"
	"fmt"
	"math"
	"math/rand/v2"
	"reflect"
	"runtime"
	"slices"
	"strings"
	"testing"

	"cellarer/api"
	"cellarer/disk"
	"cellarer/manifest"
	"cellarer/node"
	"cellarer/packs"
	"cellarer/store"
)

// dice: the same numbers in every run.
func dice() *rand.Rand {
	return rand.New(rand.NewPCG(35, 22))
}

// sum: the 32 bytes of a text's SHA-256, by the library.
func sum(s string) string {
	b := sha256.Sum256([]byte(s))
	return string(b[:])
}

// sha: a name of bytes, by the library.
func sha(s string) string {
	return fmt.Sprintf("%x", sha256.Sum256([]byte(s)))
}

// sums: those of texts, in their order.
func sums(texts ...string) []string {
	var out []string
	for _, s := range texts {
		out = append(out, sum(s))
	}
	return out
}

// called: the names of texts, rising.
func called(texts ...string) []string {
	var out []string
	for _, s := range texts {
		out = append(out, sha(s))
	}
	slices.Sort(out)
	return slices.Compact(out)
}

// ok: calls that are to be answered by OK.
func ok(t *testing.T, all ...api.Errno) {
	t.Helper()
	for i, e := range all {
		if e != api.OK {
			t.Fatalf("call %d: %d", i, e)
		}
	}
}

// opened: the store of a disk.
func opened(t *testing.T, d *disk.Disk) *store.Store {
	t.Helper()
	s, e := store.Open(d, 6)
	ok(t, e)
	return s
}

// fresh: an empty disk, and its store.
func fresh(t *testing.T) (*disk.Disk, *store.Store) {
	t.Helper()
	d, e := disk.New(1 << 20)
	ok(t, e)
	return d, opened(t, d)
}

// put: chunks that wait in a store from now on, or were there.
func put(t *testing.T, s *store.Store, chunks ...string) {
	t.Helper()
	for _, c := range chunks {
		_, _, e := s.Put(c)
		ok(t, e)
	}
}

// flushed: chunks that are in one pack, whose name is answered.
func flushed(t *testing.T, s *store.Store, chunks ...string) string {
	t.Helper()
	put(t, s, chunks...)
	ok(t, s.Flush())
	pack, is := s.Place(sha(chunks[0]))
	if !is {
		t.Fatal("no pack")
	}
	return pack
}

// killed: the disk has died.
func killed(d *disk.Disk) {
	d.Arm(0)
	d.Settle()
}

// cut: a text's parts of n bytes, the last one shorter.
func cut(s string, n int) []string {
	var out []string
	for ; len(s) > n; s = s[n:] {
		out = append(out, s[:n])
	}
	return append(out, s)
}

// encoded: nodes as bytes.
func encoded(t *testing.T, l ...node.Node) string {
	t.Helper()
	s, e := node.Encode(l)
	ok(t, e)
	return s
}

// file: a file of these chunks.
func file(at string, chunks ...string) node.Plain {
	return node.Plain{At: at, Size: len(strings.Join(chunks, "")), Chunks: sums(chunks...)}
}

// saved: a manifest of nodes, whose bytes, as chunks of n, wait in the store.
func saved(t *testing.T, s *store.Store, n int, l ...node.Node) (manifest.Manifest, []string) {
	t.Helper()
	text := encoded(t, l...)
	parts := cut(text, n)
	put(t, s, parts...)
	return manifest.Manifest{Size: len(text), Chunks: sums(parts...)}, parts
}

// published: the name of a manifest, of this time, that is on the disk.
func published(t *testing.T, d *disk.Disk, m manifest.Manifest, time int) string {
	t.Helper()
	m.Time = time
	id, e := manifest.Publish(d, m)
	ok(t, e)
	return id
}

// joins: what Join is to answer.
func joins(t *testing.T, what string, s *store.Store, chunks []string, size int, want string) {
	t.Helper()
	if got, e := Join(s, chunks, size); got != want || e != api.OK {
		t.Errorf("%s: %.40q, %d", what, got, e)
	}
}

// unjoined: the error that Join is to answer.
func unjoined(t *testing.T, what string, s *store.Store, chunks []string, size int, want api.Errno) {
	t.Helper()
	if got, e := Join(s, chunks, size); got != "" || e != want {
		t.Errorf("%s: %.40q, %d, not %d", what, got, e, want)
	}
}

// refused: the error that Tree and Needs are to answer.
func refused(t *testing.T, what string, s *store.Store, m manifest.Manifest, want api.Errno) {
	t.Helper()
	if l, e := Tree(s, m); len(l) != 0 || e != want {
		t.Errorf("%s: Tree: %v, %d, not %d", what, l, e, want)
	}
	unneeded(t, what, s, m, want)
}

// unneeded: the error that Needs is to answer.
func unneeded(t *testing.T, what string, s *store.Store, m manifest.Manifest, want api.Errno) {
	t.Helper()
	if l, e := Needs(s, m); len(l) != 0 || e != want {
		t.Errorf("%s: Needs: %v, %d, not %d", what, l, e, want)
	}
}

// needed: what Needs is to answer.
func needed(t *testing.T, what string, s *store.Store, m manifest.Manifest, want []string) {
	t.Helper()
	if got, e := Needs(s, m); !slices.Equal(got, want) || e != api.OK {
		t.Errorf("%s: Needs: %v, %d, not %v", what, got, e, want)
	}
}

// lives: what Live is to answer.
func lives(t *testing.T, what string, d *disk.Disk, s *store.Store, want, bad []string) {
	t.Helper()
	slices.Sort(bad)
	live, others, e := Live(d, s)
	if !slices.Equal(live, want) || !slices.Equal(others, bad) || e != api.OK {
		t.Errorf("%s: Live: %v, %v, %d, not %v, %v", what, live, others, e, want, bad)
	}
}

// P22.1: the chapter's example, and chunks in their order, as often as they are named.
func TestJoin(t *testing.T) {
	d, s := fresh(t)
	joins(t, "none", s, nil, 0, "")
	joins(t, "none", s, []string{}, 0, "")
	unjoined(t, "none of 1", s, nil, 1, api.ErrLoss)
	unjoined(t, "a sum that isn't there", s, sums("a"), 1, api.ErrLoss)
	flushed(t, s, "kept", "also")
	put(t, s, "waits")
	joins(t, "one", s, sums("kept"), 4, "kept")
	joins(t, "one that waits", s, sums("waits"), 5, "waits")
	joins(t, "three", s, sums("also", "waits", "kept"), 13, "alsowaitskept")
	joins(t, "repeats", s, sums("kept", "also", "kept", "kept"), 16, "keptalsokeptkept")
	ok(t, s.Flush())
	joins(t, "opened anew", opened(t, d), sums("waits", "kept"), 9, "waitskept")
	s.Drop()
	long := strings.Repeat("x", api.MaxChunk)
	put(t, s, long)
	joins(t, "long", s, sums(long, "kept", long), 2*api.MaxChunk+4, long+"kept"+long)
}

// P22.1: another size, or a sum that is none of a chunk.
func TestJoinLoss(t *testing.T) {
	_, s := fresh(t)
	flushed(t, s, "hello", "h")
	for _, size := range []int{math.MinInt, -5, -1, 0, 4, 6, 10, math.MaxInt} {
		unjoined(t, fmt.Sprint("size ", size), s, sums("hello"), size, api.ErrLoss)
	}
	unjoined(t, "below 0", s, nil, -1, api.ErrLoss)
	unjoined(t, "a part of them", s, sums("hello", "h"), 5, api.ErrLoss)
	unjoined(t, "the size of the last", s, sums("hello", "h"), 1, api.ErrLoss)
	x := sum("hello")
	for _, c := range []string{"", x[:31], x + "\x00", x + x, sha("hello"), "p" + x, "hello", sum("never")} {
		unjoined(t, fmt.Sprintf("the sum %q", c), s, []string{c}, 5, api.ErrLoss)
		unjoined(t, fmt.Sprintf("the sum %q of none", c), s, []string{c}, 0, api.ErrLoss)
		unjoined(t, fmt.Sprintf("behind another the sum %q", c), s, []string{x, c}, 5, api.ErrLoss)
		unjoined(t, fmt.Sprintf("ahead of another the sum %q", c), s, []string{c, x}, 5, api.ErrLoss)
	}
}

// P22.1: what is far too much is refused, and isn't gathered.
func TestJoinTooMuch(t *testing.T) {
	_, s := fresh(t)
	long := strings.Repeat("x", api.MaxChunk)
	put(t, s, long)
	many := slices.Repeat(sums(long), 1<<16)
	unjoined(t, "one too many", s, many[:2], api.MaxChunk, api.ErrLoss)
	var before, after runtime.MemStats
	runtime.ReadMemStats(&before)
	unjoined(t, "all too many", s, many, api.MaxChunk, api.ErrLoss)
	runtime.ReadMemStats(&after)
	// All of them together have 256 MiB; the names of their sums are far less.
	if made := after.TotalAlloc - before.TotalAlloc; made > 1<<26 {
		t.Errorf("%d bytes were made", made)
	}
}

// P22.1: a dead disk is told as it is, where a chunk must be read from it; the first error in order is answered.
func TestJoinDead(t *testing.T) {
	d, s := fresh(t)
	flushed(t, s, "kept")
	put(t, s, "waits")
	killed(d)
	unjoined(t, "kept", s, sums("kept"), 4, api.ErrDead)
	unjoined(t, "behind one that waits", s, sums("waits", "kept"), 9, api.ErrDead)
	unjoined(t, "of another size", s, sums("kept"), 3, api.ErrDead)
	unjoined(t, "behind too many bytes", s, sums("waits", "kept"), 1, api.ErrDead)
	unjoined(t, "behind one that isn't there", s, sums("never", "kept"), 4, api.ErrLoss)
	unjoined(t, "ahead of one that isn't there", s, sums("kept", "never"), 4, api.ErrDead)
	joins(t, "none", s, nil, 0, "")
	joins(t, "what waits", s, sums("waits"), 5, "waits")
}

// P22.1: whatever byte of a pack is spoilt, its chunks are lost, and those of others aren't.
func TestJoinSpoilt(t *testing.T) {
	d, s := fresh(t)
	pack := flushed(t, s, "first", "second")
	flushed(t, s, "other")
	body, e := d.Read(pack)
	ok(t, e)
	for at := range len(body) {
		ok(t, d.Spoil(pack, at, body[at]^1))
		unjoined(t, fmt.Sprint("byte ", at), s, sums("other", "first"), 10, api.ErrLoss)
		ok(t, d.Spoil(pack, at, body[at]))
	}
	joins(t, "mended", s, sums("other", "first", "second"), 16, "otherfirstsecond")
	ok(t, d.Spoil(pack, 0, '?'))
	joins(t, "of the other pack", s, sums("other"), 5, "other")
	unjoined(t, "opened anew", opened(t, d), sums("first"), 5, api.ErrLoss)
	ok(t, d.Remove(pack))
	unjoined(t, "removed", s, sums("first"), 5, api.ErrLoss)
}

// all: nodes of all three types.
func all() []node.Node {
	return []node.Node{
		node.Folder{At: "a", Mode: 493, Time: 7},
		node.Plain{At: "a/b", Mode: 420, Time: 8, Size: 9, Chunks: sums("abc", "def", "abc")},
		node.Plain{At: "a/c", Chunks: nil},
		node.Sym{At: "z", Mode: 511, Time: api.MaxTime, Target: "a/b"},
	}
}

// P22.1: the nodes that were told, from one chunk or many, waiting or flushed; their files' chunks aren't asked for.
func TestTree(t *testing.T) {
	for _, n := range []int{1, 5, 50, 4096} {
		d, s := fresh(t)
		m, _ := saved(t, s, n, all()...)
		if l, e := Tree(s, m); !reflect.DeepEqual(l, all()) || e != api.OK {
			t.Errorf("%d: %v, %d", n, l, e)
		}
		ok(t, s.Flush())
		d.Crash()
		if l, e := Tree(opened(t, d), m); !reflect.DeepEqual(l, all()) || e != api.OK {
			t.Errorf("%d, opened anew: %v, %d", n, l, e)
		}
	}
	_, s := fresh(t)
	m, _ := saved(t, s, 9)
	if l, e := Tree(s, m); len(l) != 0 || e != api.OK || m.Size != 1 {
		t.Errorf("no nodes: %v, %d", l, e)
	}
}

// P22.1: a tree whose bytes aren't there, aren't so many, or aren't those of nodes.
func TestTreeLoss(t *testing.T) {
	d, s := fresh(t)
	m, parts := saved(t, s, 20, all()...)
	ok(t, s.Flush())
	refused(t, "nothing", s, manifest.Manifest{}, api.ErrLoss)
	refused(t, "no chunks", s, manifest.Manifest{Size: m.Size}, api.ErrLoss)
	for _, by := range []int{-1, 1, -m.Size, math.MinInt} {
		refused(t, fmt.Sprint("size by ", by), s, manifest.Manifest{Size: m.Size + by, Chunks: m.Chunks}, api.ErrLoss)
	}
	last := len(parts) - 1
	refused(t, "without the last chunk", s, manifest.Manifest{Size: m.Size - len(parts[last]), Chunks: m.Chunks[:last]}, api.ErrLoss)
	turned := slices.Clone(m.Chunks)
	slices.Reverse(turned)
	refused(t, "chunks in another order", s, manifest.Manifest{Size: m.Size, Chunks: turned}, api.ErrLoss)
	refused(t, "a chunk that isn't there", s, manifest.Manifest{Size: m.Size, Chunks: append(m.Chunks[:1:1], sum("never"))}, api.ErrLoss)
	for _, text := range []string{"\x01", "\x00\x00", "\xc9\x01", "\x01\x01\x03a/b\x00\x00", "\x01\x01\x01/\x00\x00", "\x01\x09\x01a\x00\x00", "text"} {
		put(t, s, text)
		refused(t, fmt.Sprintf("%q", text), s, manifest.Manifest{Size: len(text), Chunks: sums(text)}, api.ErrLoss)
	}
	killed(d)
	refused(t, "dead", s, m, api.ErrDead)
}

// P22.1: the manifest's own fields, but Size and Chunks, are nobody's concern.
func TestOtherFields(t *testing.T) {
	_, s := fresh(t)
	m, parts := saved(t, s, 30, node.Folder{At: "a"})
	m.Time, m.Tag, m.Parent = -5, "x/y", "no name"
	if l, e := Tree(s, m); len(l) != 1 || e != api.OK {
		t.Errorf("%v, %d", l, e)
	}
	needed(t, "other fields", s, m, called(parts...))
}

// P22.1: names of the tree's chunks and of its files', each once, rising.
func TestNeeds(t *testing.T) {
	d, s := fresh(t)
	put(t, s, "abc", "def", "unused")
	m, parts := saved(t, s, 7, all()...)
	want := called(append([]string{"abc", "def"}, parts...)...)
	needed(t, "waiting", s, m, want)
	ok(t, s.Flush())
	needed(t, "flushed", s, m, want)
	needed(t, "opened anew", opened(t, d), m, want)
	empty, _ := saved(t, s, 7)
	needed(t, "no nodes", s, empty, called("\x00"))
}

// P22.1: a chunk of the tree's bytes that a file has as well stands once.
func TestNeedsOnce(t *testing.T) {
	_, s := fresh(t)
	text := encoded(t, node.Folder{At: "aaaa"}, node.Folder{At: "aaab"}, node.Folder{At: "aaac"})
	parts := cut(text, 1)
	put(t, s, parts...)
	m := manifest.Manifest{Size: len(text), Chunks: sums(parts...)}
	needed(t, "bytes that stand often", s, m, called(parts...))
	shared := encoded(t, file("a", "\x02"), file("b", "\x02", "\x01"))
	parts = cut(shared, 1)
	put(t, s, parts...)
	m = manifest.Manifest{Size: len(shared), Chunks: sums(parts...)}
	needed(t, "a file's chunk in the tree's bytes", s, m, called(parts...))
}

// P22.1: each chunk that the store hasn't is a loss; one that it has isn't read.
func TestNeedsLoss(t *testing.T) {
	d, s := fresh(t)
	pack := flushed(t, s, "abc", "def")
	m, parts := saved(t, s, 4096, all()...)
	ok(t, s.Flush())
	want := called(append([]string{"abc", "def"}, parts...)...)
	ok(t, d.Spoil(pack, 3, '?'))
	needed(t, "a spoilt pack that the store doesn't know of", s, m, want)
	unneeded(t, "a spoilt pack", opened(t, d), m, api.ErrLoss)
	for _, left := range []string{"abc", "def"} {
		_, s := fresh(t)
		saved(t, s, 4096, all()...)
		put(t, s, left)
		if l, e := Tree(s, m); len(l) != len(all()) || e != api.OK {
			t.Errorf("Tree: %v, %d", l, e)
		}
		unneeded(t, "only "+left, s, m, api.ErrLoss)
	}
	killed(d)
	unneeded(t, "dead", s, m, api.ErrDead)
}

// P22.2: no snapshots, one, and more that share chunks; what none needs isn't told.
func TestLive(t *testing.T) {
	d, s := fresh(t)
	lives(t, "an empty disk", d, s, nil, nil)
	put(t, s, "abc", "def", "xyz", "unused")
	ok(t, s.Flush())
	lives(t, "no snapshots", d, s, nil, nil)
	one, oneParts := saved(t, s, 25, all()...)
	two, twoParts := saved(t, s, 25, file("a", "xyz", "abc"))
	ok(t, s.Flush())
	published(t, d, one, 5)
	first := called(append([]string{"abc", "def"}, oneParts...)...)
	lives(t, "one", d, s, first, nil)
	published(t, d, two, 4)
	both := called(append(append([]string{"abc", "def", "xyz"}, oneParts...), twoParts...)...)
	lives(t, "two", d, s, both, nil)
	published(t, d, one, 6)
	lives(t, "one of them twice", d, s, both, nil)
	d.Crash()
	lives(t, "behind a crash", d, opened(t, d), both, nil)
}

// P22.2: snapshots that have lost something are named, and need nothing.
func TestLiveLoss(t *testing.T) {
	d, s := fresh(t)
	pack := flushed(t, s, "abc")
	flushed(t, s, "xyz", "def")
	var good, bad []string
	keep := func(time int, l ...node.Node) string {
		m, parts := saved(t, s, 4096, l...)
		good = append(good, parts...)
		return published(t, d, m, time)
	}
	keep(1, file("a", "xyz"))
	first := keep(2, file("b", "abc", "xyz"))
	wide, parts := saved(t, s, 4096, file("c", "def"))
	wide.Size++
	ok(t, s.Flush())
	bad = append(bad, published(t, d, wide, 3), published(t, d, manifest.Manifest{Size: 9, Chunks: sums("never")}, 0))
	lives(t, "a wrong size, a tree that isn't there", d, s, called(append(good, "abc", "xyz")...), bad)

	spoilt := keep(4, file("d", "def"))
	body, e := d.Read(manifest.Front + spoilt)
	ok(t, e, s.Flush(), d.Spoil(manifest.Front+spoilt, 4, body[4]+1))
	bad = append(bad, spoilt)
	lives(t, "a spoilt manifest", d, s, called(append(good[:2:2], "abc", "xyz")...), bad)

	ok(t, d.Spoil(pack, 0, '?'))
	lives(t, "a pack that the store has read", d, s, called(append(good[:2:2], "abc", "xyz")...), bad)
	bad = append(bad, first)
	lives(t, "a pack that is lost", d, opened(t, d), called(good[0], "xyz"), bad)

	place, _ := s.Place(sha(good[0]))
	if at, _ := s.Place(sha(parts[0])); at != place {
		t.Fatal("two packs")
	}
	ok(t, d.Remove(place))
	rest, others, e := Live(d, s)
	if len(rest) != 0 || len(others) != 5 || !slices.IsSorted(others) || e != api.OK {
		t.Errorf("no tree is left: %v, %v, %d", rest, others, e)
	}
}

// P22.2: a file that isn't called as a manifest is, or that hasn't the bytes of one.
func TestLiveOtherFiles(t *testing.T) {
	d, s := fresh(t)
	m, parts := saved(t, s, 4096, node.Folder{At: "a"})
	ok(t, s.Flush())
	published(t, d, m, 1)
	ok(t, d.Append("s", "x"), d.Append("sabc", "x"), d.Append("log", "x"), d.Append(packs.Temp, "x"))
	ok(t, d.Append("S"+sha("x"), "x"), d.Append(manifest.Front+sha("y"), "x"), d.Append(manifest.Front+sha("text"), "text"))
	lives(t, "other files", d, s, called(parts...), []string{sha("y"), sha("text")})
}

// P22.2: a dead disk, and nothing else; whether it is the manifests that can't be read, or the chunks.
func TestLiveDead(t *testing.T) {
	d, s := fresh(t)
	m, _ := saved(t, s, 4096, node.Folder{At: "a"})
	ok(t, s.Flush())
	// Ahead of the one that can't be read stand one that is lost, and one that is answered, as its chunks wait.
	waits, _ := saved(t, s, 4096, node.Folder{At: "waits"})
	lost := []string{published(t, d, manifest.Manifest{Size: 9, Chunks: sums("never")}, 0), published(t, d, waits, 0)}
	published(t, d, m, 1)
	twin, e := disk.New(1 << 20)
	ok(t, e)
	names, _ := d.List()
	for _, name := range names {
		body, _ := d.Read(name)
		ok(t, twin.Append(name, body))
	}
	killed(d)
	for _, on := range []*disk.Disk{d, twin} {
		if live, bad, e := Live(on, s); len(live) != 0 || len(bad) != 0 || e != api.ErrDead {
			t.Errorf("%v, %v, %d", live, bad, e)
		}
	}
	empty, _ := fresh(t)
	killed(empty)
	if live, bad, e := Live(empty, s); len(live) != 0 || len(bad) != 0 || e != api.ErrDead {
		t.Errorf("empty: %v, %v, %d", live, bad, e)
	}
	slices.Sort(lost)
	if _, bad, e := Live(twin, opened(t, twin)); !slices.Equal(bad, lost) || e != api.OK {
		t.Errorf("alive: %v, %d", bad, e)
	}
}

// P22.2: many snapshots by dice, some of which lose their manifest or a chunk.
func TestLiveMany(t *testing.T) {
	r := dice()
	for range 40 {
		d, s := fresh(t)
		var want, bad []string
		for time := range r.IntN(8) {
			chunk := fmt.Sprint("chunk ", r.IntN(5))
			lost := r.IntN(3) == 0
			if lost {
				chunk = fmt.Sprint("lost ", time)
			} else {
				put(t, s, chunk)
			}
			m, parts := saved(t, s, 1+r.IntN(60), node.Folder{At: "f"}, file(fmt.Sprint("f/", r.IntN(9)), chunk, chunk))
			id := published(t, d, m, r.IntN(3)*10+time)
			switch {
			case lost:
				bad = append(bad, id)
			case r.IntN(4) == 0:
				ok(t, d.Spoil(manifest.Front+id, 0, 'S'))
				bad = append(bad, id)
			default:
				want = append(append(want, chunk), parts...)
			}
		}
		lives(t, "waiting", d, s, called(want...), bad)
		ok(t, s.Flush())
		lives(t, "opened anew", d, opened(t, d), called(want...), bad)
	}
}

// told: all files of a disk.
func told(d *disk.Disk) string {
	names, e := d.List()
	out := fmt.Sprint(e)
	for _, name := range names {
		s, _ := d.Read(name)
		out += fmt.Sprintf(" %s %q", name, s)
	}
	return out
}

// P22.3: no call changes the disk, or tries to; what waits waits still; lists, and the room behind them, are as they were.
func TestNothingChanged(t *testing.T) {
	d, s := fresh(t)
	put(t, s, "abc", "def")
	m, parts := saved(t, s, 30, all()...)
	ok(t, s.Flush())
	published(t, d, m, 1)
	put(t, s, "waits")
	ok(t, d.Append(packs.Temp, "half made"))
	before, names := told(d), s.Names()
	room := append(slices.Clone(m.Chunks), "spare", "spare")
	was := slices.Clone(room)
	m.Chunks = room[:len(m.Chunks)]
	d.Arm(0)
	joins(t, "armed", s, room[:1], len(parts[0]), parts[0])
	unjoined(t, "armed", s, room[:len(parts)+1], m.Size, api.ErrLoss)
	needed(t, "armed", s, m, called(append([]string{"abc", "def"}, parts...)...))
	lives(t, "armed", d, s, called(append([]string{"abc", "def"}, parts...)...), nil)
	d.Arm(-1)
	if told(d) != before || !slices.Equal(room, was) || !slices.Equal(s.Names(), names) {
		t.Errorf("changed: %s", told(d))
	}
	if c, e := s.Get(sha("waits")); c != "waits" || e != api.OK {
		t.Errorf("what waits: %q, %d", c, e)
	}
}

// P22.3: an answer that is changed changes no other one.
func TestNewMemory(t *testing.T) {
	d, s := fresh(t)
	put(t, s, "abc", "def")
	m, parts := saved(t, s, 30, all()...)
	ok(t, s.Flush())
	published(t, d, m, 1)
	lost := published(t, d, manifest.Manifest{Size: 9, Chunks: sums("never")}, 0)
	want := called(append([]string{"abc", "def"}, parts...)...)
	l, _ := Tree(s, m)
	node.MustPlain(l[1]).Chunks[0] = "?"
	l[1].(node.Plain).Chunks[0] = "?"
	l[0] = nil
	names, _ := Needs(s, m)
	live, bad, _ := Live(d, s)
	names[0], live[0], bad[0] = "?", "?", "?"
	if l, e := Tree(s, m); !reflect.DeepEqual(l, all()) || e != api.OK {
		t.Errorf("Tree: %v, %d", l, e)
	}
	needed(t, "again", s, m, want)
	lives(t, "again", d, s, want, []string{lost})
}
