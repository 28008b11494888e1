package backup

import (
	"crypto/sha256"
	"fmt"
	"math/rand/v2"
	"slices"
	"strings"
	"testing"

	"cellarer/api"
	"cellarer/chunker"
	"cellarer/disk"
	"cellarer/manifest"
	"cellarer/node"
	"cellarer/store"
)

const room = 1 << 24

// dice: the same numbers in every run of the same seed.
func dice(seed int) *rand.Rand {
	return rand.New(rand.NewPCG(24, uint64(seed)))
}

// sum: the 32 bytes of a text's SHA-256, by the library.
func sum(s string) string {
	b := sha256.Sum256([]byte(s))
	return string(b[:])
}

// sha: a name of bytes, by the library.
func sha(s string) string {
	return fmt.Sprintf("%x", sha256.Sum256([]byte(s)))
}

// ok: calls that are to be answered by OK.
func ok(t *testing.T, all ...api.Errno) {
	t.Helper()
	for i, e := range all {
		if e != api.OK {
			t.Fatalf("call %d: %d", i, e)
		}
	}
}

// fresh: an empty disk of that room, and its store.
func fresh(t *testing.T, room int) (*disk.Disk, *store.Store) {
	t.Helper()
	d, e := disk.New(room)
	ok(t, e)
	return d, opened(t, d)
}

// opened: the store of a disk.
func opened(t *testing.T, d *disk.Disk) *store.Store {
	t.Helper()
	s, e := store.Open(d, 6)
	ok(t, e)
	return s
}

// killed: the disk has died.
func killed(d *disk.Disk) {
	d.Arm(0)
	d.Settle()
}

// noise: so many bytes by dice, of so many values.
func noise(r *rand.Rand, n, values int) string {
	var out []byte
	for range n {
		out = append(out, byte('0'+r.IntN(values)))
	}
	return string(out)
}

// told: all files of a disk.
func told(d *disk.Disk) string {
	names, e := d.List()
	out := fmt.Sprint(e)
	for _, name := range names {
		s, _ := d.Read(name)
		out += fmt.Sprintf(" %s %q", name, s)
	}
	return out
}

// cut: a text's chunks, by the chapter's numbers.
func cut(t *testing.T, s string) []string {
	t.Helper()
	l, e := chunker.Split(s, chunker.Conf{Min: 64, Bits: 7, Max: 1024})
	ok(t, e)
	return l
}

// sums: those of texts, in their order.
func sums(texts []string) []string {
	var out []string
	for _, s := range texts {
		out = append(out, sum(s))
	}
	return out
}

// stored: of a tree, whose items rise, all chunks in the order in which they are put, and the manifest, by the chapter's words.
func stored(t *testing.T, sorted []api.Item) ([]string, manifest.Manifest) {
	t.Helper()
	var puts []string
	var nodes []node.Node
	for _, x := range sorted {
		switch x.Kind {
		case api.Dir:
			nodes = append(nodes, node.Folder{At: x.Path, Mode: x.Mode, Time: x.Time})
		case api.Link:
			nodes = append(nodes, node.Sym{At: x.Path, Mode: x.Mode, Time: x.Time, Target: x.Data})
		case api.File:
			parts := cut(t, x.Data)
			puts = append(puts, parts...)
			nodes = append(nodes, node.Plain{At: x.Path, Mode: x.Mode, Time: x.Time, Size: len(x.Data), Chunks: sums(parts)})
		}
	}
	text, e := node.Encode(nodes)
	ok(t, e)
	parts := cut(t, text)
	return append(puts, parts...), manifest.Manifest{Size: len(text), Chunks: sums(parts)}
}

// alike: are two manifests the same, field by field?
func alike(a, b manifest.Manifest) bool {
	return a.Time == b.Time && a.Tag == b.Tag && a.Parent == b.Parent && a.Size == b.Size && slices.Equal(a.Chunks, b.Chunks)
}

// saved: Save is answered by the manifest that the chapter's words make, and its puts are those that they tell: by the numbers, and by the very disk that they leave, if the same chunks are put into another store.
func saved(t *testing.T, what string, items, sorted []api.Item) (*disk.Disk, *store.Store, manifest.Manifest) {
	t.Helper()
	puts, want := stored(t, sorted)
	twin, byHand := fresh(t, room)
	var stats Stats
	for _, c := range puts {
		_, isNew, e := byHand.Put(c)
		ok(t, e)
		stats.All++
		if isNew {
			stats.Fresh++
			stats.Bytes += len(c)
		}
	}
	d, s := fresh(t, room)
	m, got, e := Save(s, items)
	if !alike(m, want) || got != stats || e != api.OK {
		t.Fatalf("%s: Save: size %d, %v, %d, not size %d, %v", what, m.Size, got, e, want.Size, stats)
	}
	if told(d) != told(twin) {
		t.Fatalf("%s: not flushed as the puts would", what)
	}
	ok(t, s.Flush(), byHand.Flush())
	if told(d) != told(twin) {
		t.Fatalf("%s: other chunks were put, or in another order", what)
	}
	return d, s, m
}

// restores: what Restore is to answer.
func restores(t *testing.T, what string, s *store.Store, m manifest.Manifest, want []api.Item) {
	t.Helper()
	if l, e := Restore(s, m); !slices.Equal(l, want) || e != api.OK {
		t.Fatalf("%s: Restore: %d items, %d: %.300v", what, len(l), e, l)
	}
}

// lost: the error that Restore is to answer.
func lost(t *testing.T, what string, s *store.Store, m manifest.Manifest, want api.Errno) {
	t.Helper()
	if l, e := Restore(s, m); len(l) != 0 || e != want {
		t.Errorf("%s: Restore: %d items, %d, not %d", what, len(l), e, want)
	}
}

// garden: a tree of all kinds, by rising paths.
func garden() []api.Item {
	r := dice(1)
	return []api.Item{
		{Path: "a", Kind: api.Dir, Mode: 493, Time: 7},
		{Path: "a/b", Kind: api.File, Mode: 420, Time: 8, Data: noise(r, 5000, 64)},
		{Path: "a/empty", Kind: api.File, Mode: 0, Time: api.MaxTime},
		{Path: "a/z", Kind: api.Dir},
		{Path: "a/z/é", Kind: api.File, Mode: 511, Time: 1, Data: "\x00\xff short"},
		{Path: "a-b", Kind: api.File, Data: strings.Repeat("again and ", 1000)},
		{Path: "l", Kind: api.Link, Mode: 511, Time: 9, Data: "../no where\xff"},
		{Path: "most", Kind: api.File, Mode: 1, Time: 2, Data: noise(r, api.MaxFile, 200)},
		{Path: "twin", Kind: api.File, Data: strings.Repeat("again and ", 1000)},
	}
}

// mixed: the same items in another order.
func mixed(seed int, items []api.Item) []api.Item {
	out := slices.Clone(items)
	dice(seed).Shuffle(len(out), func(i, j int) { out[i], out[j] = out[j], out[i] })
	return out
}

// forest: a tree by dice, by rising paths: folders f0 to f9, and in some of them files, links and folders.
func forest(seed int) []api.Item {
	r := dice(seed)
	var out []api.Item
	item := func(path string) api.Item {
		x := api.Item{Path: path, Kind: 1 + r.IntN(3), Mode: r.IntN(512), Time: r.IntN(1 << 37)}
		switch x.Kind {
		case api.File:
			x.Data = noise(r, r.IntN(3)*r.IntN(3000), 1+r.IntN(60))
		case api.Link:
			x.Data = noise(r, 1+r.IntN(200), 60)
		}
		return x
	}
	for i := range r.IntN(10) {
		out = append(out, item(fmt.Sprint("f", i)))
		if out[len(out)-1].Kind != api.Dir {
			continue
		}
		for j := range r.IntN(10) {
			out = append(out, item(fmt.Sprintf("f%d/%d", i, j)))
			if out[len(out)-1].Kind == api.Dir {
				out = append(out, item(fmt.Sprintf("f%d/%d/x", i, j)))
			}
		}
	}
	return out
}

// P24.1: how texts are cut.
func TestChunks(t *testing.T) {
	if c := Chunks(); c != (chunker.Conf{Min: 64, Bits: 7, Max: 1024}) {
		t.Errorf("%v", c)
	}
}

// P24.1: the chapter's example: a tree of nothing is one byte, and is there when it is saved again.
func TestNothing(t *testing.T) {
	for _, none := range [][]api.Item{nil, {}} {
		_, s := fresh(t, room)
		m, stats, e := Save(s, none)
		if !alike(m, manifest.Manifest{Size: 1, Chunks: []string{sum("\x00")}}) || stats != (Stats{Fresh: 1, Bytes: 1, All: 1}) || e != api.OK {
			t.Errorf("%v, %v, %d", m, stats, e)
		}
		if c, e := s.Get(sha("\x00")); c != "\x00" || e != api.OK {
			t.Errorf("%q, %d", c, e)
		}
		if m, stats, e := Save(s, none); m.Size != 1 || stats != (Stats{All: 1}) || e != api.OK {
			t.Errorf("again: %v, %v, %d", m, stats, e)
		}
		restores(t, "nothing", s, m, nil)
	}
}

// P24.1: a small tree, with its bytes written by hand.
func TestByHand(t *testing.T) {
	_, s := fresh(t, room)
	items := []api.Item{
		{Path: "b", Kind: api.Link, Mode: 2, Time: 300, Data: "to"},
		{Path: "a/c", Kind: api.File, Mode: 5, Time: 9, Data: "hi"},
		{Path: "a", Kind: api.Dir, Mode: 7},
		{Path: "e", Kind: api.File},
	}
	m, stats, e := Save(s, items)
	text := "\x04" + "\x01\x01a\x07\x00" + "\x02\x03a/c\x05\x09\x02\x01" + sum("hi") + "\x03\x01b\x02\xac\x02\x02to" + "\x02\x01e\x00\x00\x00\x00"
	if len(cut(t, text)) != 1 {
		t.Fatal("more chunks than one")
	}
	if !alike(m, manifest.Manifest{Size: len(text), Chunks: []string{sum(text)}}) || stats != (Stats{Fresh: 2, Bytes: 2 + len(text), All: 2}) || e != api.OK {
		t.Errorf("%v, %v, %d", m, stats, e)
	}
	for _, want := range []string{"hi", text} {
		if c, e := s.Get(sha(want)); c != want || e != api.OK {
			t.Errorf("%q, %d", c, e)
		}
	}
	if s.Flush(); len(s.Names()) != 2 {
		t.Errorf("%d chunks", len(s.Names()))
	}
}

// P24.1, P24.2: trees of all kinds, and by dice, against the chapter's words; and each comes back, waiting, flushed, and opened anew.
func TestSave(t *testing.T) {
	trees := [][]api.Item{garden()}
	for seed := range 40 {
		trees = append(trees, forest(seed))
	}
	for i, sorted := range trees {
		what := fmt.Sprint("tree ", i)
		d, s, m := saved(t, what, mixed(i, sorted), sorted)
		restores(t, what+", flushed", s, m, sorted)
		d.Crash()
		restores(t, what+", opened anew", opened(t, d), m, sorted)
		_, s = fresh(t, room)
		m, _, e := Save(s, sorted)
		ok(t, e)
		restores(t, what+", waiting", s, m, sorted)
	}
}

// P24.1, P24.2: as many items as there may be, and great files, of which the store flushes some on the way.
func TestGreatest(t *testing.T) {
	r := dice(3)
	var sorted []api.Item
	for i := range api.MaxNodes {
		sorted = append(sorted, api.Item{Path: fmt.Sprintf("%03d", i), Kind: api.File, Data: noise(r, 300, 64)})
	}
	sorted[7].Data = noise(r, api.MaxFile, 64)
	d, _, m := saved(t, "the most items", mixed(3, sorted), sorted)
	if names, _ := d.List(); len(names) < 3 {
		t.Errorf("only %d packs", len(names))
	}
	restores(t, "the most items", opened(t, d), m, sorted)
}

// P24.1: nothing is flushed, as long as not too much waits; what waits is forgotten by Drop.
func TestNotFlushed(t *testing.T) {
	d, s := fresh(t, room)
	d.Arm(0)
	m, _, e := Save(s, garden()[:6])
	ok(t, e)
	if names, e := d.List(); len(names) != 0 || e != api.OK || len(s.Names()) != 0 {
		t.Errorf("on the disk: %v, %d", names, e)
	}
	s.Drop()
	lost(t, "dropped", s, m, api.ErrLoss)
}

// P24.1: the error of walk.Walk, and nothing was put.
func TestSaveRefused(t *testing.T) {
	dir := api.Item{Path: "a", Kind: api.Dir}
	file := api.Item{Path: "a/b", Kind: api.File, Data: "text"}
	with := func(change func(*api.Item)) []api.Item {
		x := file
		change(&x)
		return []api.Item{dir, x}
	}
	var many []api.Item
	for i := range api.MaxNodes + 1 {
		many = append(many, api.Item{Path: fmt.Sprint(i), Kind: api.File, Data: "text"})
	}
	cases := map[string]struct {
		items []api.Item
		want  api.Errno
	}{
		"too many":            {many, api.ErrBig},
		"no kind":             {with(func(x *api.Item) { x.Kind = 0 }), api.ErrKind},
		"no such kind":        {with(func(x *api.Item) { x.Kind = 4 }), api.ErrKind},
		"no path":             {with(func(x *api.Item) { x.Path = "a//b" }), api.ErrPath},
		"mode":                {with(func(x *api.Item) { x.Mode = 512 }), api.ErrForm},
		"time":                {with(func(x *api.Item) { x.Time = -1 }), api.ErrForm},
		"a folder with bytes": {with(func(x *api.Item) { x.Kind = api.Dir }), api.ErrForm},
		"a link to nowhere":   {with(func(x *api.Item) { x.Kind, x.Data = api.Link, "" }), api.ErrForm},
		"too long":            {with(func(x *api.Item) { x.Data = strings.Repeat("x", api.MaxFile+1) }), api.ErrBig},
		"twice":               {[]api.Item{dir, file, file}, api.ErrThere},
		"no folder":           {[]api.Item{file}, api.ErrAbsent},
		"in a file":           {[]api.Item{{Path: "a", Kind: api.File}, file}, api.ErrAbsent},
	}
	for what, c := range cases {
		d, s := fresh(t, room)
		if m, stats, e := Save(s, c.items); !alike(m, manifest.Manifest{}) || stats != (Stats{}) || e != c.want {
			t.Errorf("%s: %v, %v, %d, not %d", what, m, stats, e, c.want)
		}
		ok(t, s.Flush())
		if names, _ := d.List(); len(names) != 0 {
			t.Errorf("%s: chunks were put", what)
		}
		killed(d)
		if _, _, e := Save(s, c.items); e != c.want {
			t.Errorf("%s, dead: %d, not %d", what, e, c.want)
		}
	}
}

// wide: a file with more chunks than may wait, each once.
func wide() ([]api.Item, int) {
	return []api.Item{{Path: "a", Kind: api.File, Data: noise(dice(4), api.MaxFile, 64)}}, api.MaxFile
}

// P24.1: the errors of store.Put: a full disk, a dead one; chunks that were put ahead wait, and with room it is done.
func TestSaveFails(t *testing.T) {
	items, size := wide()
	chunks := cut(t, items[0].Data)
	if len(chunks) <= store.MaxPending {
		t.Fatalf("only %d chunks", len(chunks))
	}
	for _, want := range []api.Errno{api.ErrSpace, api.ErrDead} {
		d, s := fresh(t, size/2)
		if want == api.ErrDead {
			d, s = fresh(t, room)
			d.Arm(2)
		}
		if m, stats, e := Save(s, items); !alike(m, manifest.Manifest{}) || stats != (Stats{}) || e != want {
			t.Errorf("%v, %v, %d, not %d", m, stats, e, want)
		}
		for i, c := range chunks {
			if s.Has(sha(c)) != (i < store.MaxPending) {
				t.Fatalf("%d: chunk %d", want, i)
			}
			if got, e := s.Get(sha(c)); i < store.MaxPending && (got != c || e != api.OK) {
				t.Fatalf("%d: chunk %d: %d", want, i, e)
			}
		}
		if len(s.Names()) != 0 {
			t.Errorf("%d: in packs: %d", want, len(s.Names()))
		}
	}
}

// P24.2: a tree isn't there in part: whatever disk it can't be saved on, what was saved ahead is as it was.
func TestSaveFailsBehindAnother(t *testing.T) {
	small := garden()[:6]
	d, s := fresh(t, 20000)
	m, _, e := Save(s, small)
	ok(t, e, s.Flush())
	items, _ := wide()
	if _, _, e := Save(s, items); e != api.ErrSpace {
		t.Fatalf("%d", e)
	}
	restores(t, "behind a full disk", s, m, small)
	s.Drop()
	restores(t, "dropped", s, m, small)
	d.Crash()
	restores(t, "opened anew", opened(t, d), m, small)
}

// P24.3: a tree that was saved already has no new chunk, in whatever order its items come, also when the store is opened anew.
func TestAgain(t *testing.T) {
	items := garden()
	d, s := fresh(t, room)
	first, stats, e := Save(s, items)
	if e != api.OK || stats.Fresh == 0 || stats.Fresh >= stats.All || stats.Bytes < api.MaxFile {
		t.Fatalf("%v, %d", stats, e)
	}
	again := func(what string, s *store.Store, items []api.Item) {
		t.Helper()
		if m, st, e := Save(s, items); !alike(m, first) || st != (Stats{All: stats.All}) || e != api.OK {
			t.Errorf("%s: %v, %d", what, st, e)
		}
	}
	again("waiting", s, items)
	ok(t, s.Flush())
	again("flushed", s, mixed(5, items))
	d.Crash()
	before := told(d)
	s = opened(t, d)
	again("opened anew", s, mixed(6, items))
	ok(t, s.Flush())
	if told(d) != before {
		t.Error("the disk has changed")
	}
}

// P24.1, P24.3: a byte of a long file is another one, or comes in: a few chunks are new, and those of the nodes.
func TestAlike(t *testing.T) {
	items := garden()
	_, s := fresh(t, room)
	_, _, e := Save(s, items)
	ok(t, e)
	long := items[7].Data
	for _, data := range []string{long[:9000] + "!" + long[9001:], long[:9000] + "!" + long[9000:api.MaxFile-1], "!" + long[1:]} {
		old := cut(t, long)
		fresh := 0
		for _, c := range cut(t, data) {
			if !slices.Contains(old, c) {
				fresh++
			}
		}
		items[7].Data = data
		_, stats, e := Save(s, items)
		_, m := stored(t, items)
		if e != api.OK || fresh > 4 || stats.Fresh < fresh+1 || stats.Fresh > fresh+len(m.Chunks) {
			t.Errorf("%d chunks are new, of %v, %d", fresh, stats, e)
		}
	}
}

// P24.2: trees that share chunks come back each as it was.
func TestTogether(t *testing.T) {
	d, s := fresh(t, room)
	var all []manifest.Manifest
	var trees [][]api.Item
	for seed := range 12 {
		tree := forest(seed)
		if seed%3 == 0 {
			tree = garden()
			tree[1].Data = tree[1].Data[:400*seed]
		}
		m, _, e := Save(s, mixed(seed, tree))
		ok(t, e)
		if seed%4 == 1 {
			ok(t, s.Flush())
		}
		all, trees = append(all, m), append(trees, tree)
	}
	ok(t, s.Flush())
	d.Crash()
	for _, s := range []*store.Store{s, opened(t, d)} {
		for i, m := range all {
			restores(t, fmt.Sprint("tree ", i), s, m, trees[i])
		}
	}
}

// P24.2: the manifest's own fields, but Size and Chunks, are nobody's concern.
func TestOtherFields(t *testing.T) {
	_, s := fresh(t, room)
	m, _, e := Save(s, garden())
	ok(t, e)
	m.Time, m.Tag, m.Parent = 5, "tag", sha("parent")
	restores(t, "other fields", s, m, garden())
}

// P24.2: whichever chunk is wanting, of the nodes or of a file, the tree isn't restored; nor with another size.
func TestRestoreLoss(t *testing.T) {
	items := garden()[:6]
	puts, m := stored(t, items)
	for i, without := range puts {
		_, s := fresh(t, room)
		for _, c := range puts {
			if c != without {
				_, _, e := s.Put(c)
				ok(t, e)
			}
		}
		lost(t, fmt.Sprint("without chunk ", i), s, m, api.ErrLoss)
		_, _, e := s.Put(without)
		ok(t, e)
		restores(t, "with all chunks", s, m, items)
	}
	_, s := fresh(t, room)
	_, _, e := Save(s, items)
	ok(t, e)
	lost(t, "no chunks", s, manifest.Manifest{Size: m.Size}, api.ErrLoss)
	lost(t, "nothing", s, manifest.Manifest{}, api.ErrLoss)
	for _, by := range []int{-1, 1, -m.Size, 1 << 40} {
		lost(t, fmt.Sprint("size by ", by), s, manifest.Manifest{Size: m.Size + by, Chunks: m.Chunks}, api.ErrLoss)
	}
	lost(t, "a file's chunk as the nodes", s, manifest.Manifest{Size: len(puts[0]), Chunks: []string{sum(puts[0])}}, api.ErrLoss)
	lost(t, "no sums", s, manifest.Manifest{Size: m.Size, Chunks: []string{"x"}}, api.ErrLoss)
}

// P24.2: nodes that tell another size of a file than its chunks have.
func TestRestoreWrongSize(t *testing.T) {
	for _, size := range []int{1, 3, 4, 5, 6, 100} {
		_, s := fresh(t, room)
		text, e := node.Encode([]node.Node{node.Folder{At: "a"}, node.Plain{At: "b", Size: size, Chunks: []string{sum("hello")}}})
		ok(t, e)
		for _, c := range []string{"hello", text} {
			_, _, e := s.Put(c)
			ok(t, e)
		}
		m := manifest.Manifest{Size: len(text), Chunks: []string{sum(text)}}
		if size == 5 {
			restores(t, "the size", s, m, []api.Item{{Path: "a", Kind: api.Dir}, {Path: "b", Kind: api.File, Data: "hello"}})
		} else {
			lost(t, fmt.Sprint("size ", size), s, m, api.ErrLoss)
		}
	}
}

// P24.2: whatever byte of a pack is spoilt: the tree that was saved, or an error.
func TestRestoreSpoilt(t *testing.T) {
	items := garden()[:6]
	d, s := fresh(t, room)
	m, _, e := Save(s, items)
	ok(t, e, s.Flush())
	names, e := d.List()
	ok(t, e)
	body, e := d.Read(names[0])
	ok(t, e)
	for at := 0; at < len(body); at += 97 {
		ok(t, d.Spoil(names[0], at, body[at]^4))
		lost(t, fmt.Sprint("byte ", at), s, m, api.ErrLoss)
		lost(t, fmt.Sprint("opened anew, byte ", at), opened(t, d), m, api.ErrLoss)
		ok(t, d.Spoil(names[0], at, body[at]))
	}
	restores(t, "mended", s, m, items)
}

// P24.2: a dead disk is told as it is, whether the nodes can't be read, or a file.
func TestRestoreDead(t *testing.T) {
	items := garden()[:6]
	d, s := fresh(t, room)
	m, _, e := Save(s, items)
	ok(t, e)
	killed(d)
	restores(t, "all of it waits", s, m, items)
	d.Crash()
	ok(t, s.Flush())
	killed(d)
	lost(t, "flushed", s, m, api.ErrDead)

	puts, m := stored(t, items)
	for wanting := range 2 {
		d, s := fresh(t, room)
		for i, c := range puts[:len(puts)-len(m.Chunks)] {
			if wanting == 0 || i > 0 {
				_, _, e := s.Put(c)
				ok(t, e)
			}
		}
		ok(t, s.Flush())
		for _, c := range puts[len(puts)-len(m.Chunks):] {
			_, _, e := s.Put(c)
			ok(t, e)
		}
		killed(d)
		lost(t, "the files' chunks flushed", s, m, []api.Errno{api.ErrDead, api.ErrLoss}[wanting])
	}
}

// P24.4: items and manifests that are handed in aren't changed, nor the room behind them; answers are new memory.
func TestNotChanged(t *testing.T) {
	_, s := fresh(t, room)
	all := append(mixed(9, garden()), api.Item{Path: "spare"}, api.Item{Path: "spare"})
	before := slices.Clone(all)
	items := all[:len(all)-2]
	m, _, e := Save(s, items)
	ok(t, e)
	if !slices.Equal(all, before) {
		t.Error("items have changed")
	}
	n, _, _ := Save(s, items)
	keep := slices.Clone(m.Chunks)
	n.Chunks[0] = "?"
	if !slices.Equal(m.Chunks, keep) {
		t.Error("a manifest has changed")
	}
	a, _ := Restore(s, m)
	want := slices.Clone(a)
	a[0], a[1].Data = api.Item{}, "?"
	restores(t, "again", s, m, want)
	if !slices.Equal(m.Chunks, keep) {
		t.Error("the manifest has changed")
	}
}
