package script

import (
	"fmt"
	"math"
	"math/rand/v2"
	"slices"
	"strings"
	"testing"

	"cellarer/api"
	"cellarer/disk"
	"cellarer/engine"
	"cellarer/retain"
	"cellarer/wal"
)

const room = 1 << 24

// dice: the same numbers in every run of the same seed.
func dice(seed int) *rand.Rand {
	return rand.New(rand.NewPCG(26, uint64(seed)))
}

// fresh: a world of that room.
func fresh(t *testing.T, room int) *World {
	t.Helper()
	w, e := New(room, 6)
	if e != api.OK {
		t.Fatalf("New: %d", e)
	}
	return w
}

// told: all of an answer.
func told(a Answer) string {
	return fmt.Sprintf("%d %q %v %v", a.Errno, a.Names, a.Snaps, a.Items)
}

// answers: what Do is to answer.
func answers(t *testing.T, what string, w *World, o Op, want Answer) {
	t.Helper()
	if a := w.Do(o); told(a) != told(want) {
		t.Fatalf("%s: %.300s, not %.300s", what, told(a), told(want))
	}
}

// fails: the error that Do is to answer, and nothing else.
func fails(t *testing.T, what string, w *World, o Op, want api.Errno) {
	t.Helper()
	answers(t, what, w, o, Answer{Errno: want})
}

// file: a tree of one file.
func file(data string) []api.Item {
	return []api.Item{{Path: "f", Kind: api.File, Mode: 420, Time: 5, Data: data}}
}

// backed: a snapshot of one file is made; its name.
func backed(t *testing.T, w *World, data string, time int) string {
	t.Helper()
	a := w.Do(Op{Kind: Backup, Items: file(data), Time: time})
	if len(a.Names) != 1 || len(a.Names[0]) != 64 {
		t.Fatalf("Backup: %s", told(a))
	}
	return a.Names[0]
}

// forest: a tree by dice, by rising paths; of eight texts, so that trees share chunks.
func forest(r *rand.Rand) []api.Item {
	var out []api.Item
	for i := range r.IntN(4) {
		x := api.Item{Path: fmt.Sprint("f", i), Kind: 1 + r.IntN(3), Mode: r.IntN(4), Time: r.IntN(3)}
		switch x.Kind {
		case api.File:
			x.Data = strings.Repeat(fmt.Sprint("text ", r.IntN(8), " "), r.IntN(40))
		case api.Link:
			x.Data = fmt.Sprint("to ", r.IntN(3))
		case api.Dir:
			out = append(out, x)
			x = api.Item{Path: x.Path + "/x", Kind: api.File, Data: "in a folder"}
		}
		out = append(out, x)
	}
	return out
}

// tried: one op of a kind by dice.
func tried(r *rand.Rand, kind int) Op {
	o := Op{Kind: kind, Pick: r.IntN(40) - 20, At: r.IntN(4000) - 2000, Byte: byte(r.IntN(256))}
	switch kind {
	case Backup:
		o.Items, o.Time = forest(r), r.IntN(12)*30000
		o.Tag = []string{"", "kept", "other"}[r.IntN(3)]
	case Forget:
		o.Policy = retain.Policy{Last: r.IntN(3), Daily: r.IntN(3), Weekly: r.IntN(2)}
		if r.IntN(3) == 0 {
			o.Policy.Tags = []string{"kept"}
		}
	case Arm:
		o.At = r.IntN(20) - 1
	case Crash:
		for range r.IntN(6) {
			o.Keeps = append(o.Keeps, r.IntN(300)-100)
		}
	}
	return o
}

// scripted: a script by dice of these kinds, a kind as often as it stands there.
func scripted(r *rand.Rand, n int, kinds ...int) []Op {
	var out []Op
	for range n {
		out = append(out, tried(r, kinds[r.IntN(len(kinds))]))
	}
	return out
}

// wrong: some ops that are refused.
func wrong() []Op {
	return []Op{
		{Kind: Backup, Time: -1},
		{Kind: Backup, Tag: "x/y"},
		{Kind: Backup, Items: []api.Item{{Path: "a/b", Kind: api.Dir}}},
		{Kind: Backup, Items: []api.Item{{Path: "a//b", Kind: api.Dir}}},
		{Kind: Forget, Policy: retain.Policy{Last: -1}},
		{Kind: 0}, {Kind: 10}, {Kind: -1}, {Kind: math.MaxInt}, {Kind: math.MinInt},
	}
}

// P26.1: the chapter's example.
func TestExample(t *testing.T) {
	l, e := Play(room, 6, []Op{
		{Kind: Backup, Items: file("one"), Time: 5},
		{Kind: Arm},
		{Kind: Backup, Items: file("two"), Time: 6},
		{Kind: Crash},
		{Kind: List},
	})
	if len(l) != 5 || e != api.OK {
		t.Fatalf("%d answers, %d", len(l), e)
	}
	name := l[0].Names[0]
	want := []Answer{{Names: []string{name}}, {}, {Errno: api.ErrDead}, {}, {Snaps: []api.Snap{{Id: name, Time: 5}}}}
	for i, a := range want {
		if told(l[i]) != told(a) || len(name) != 64 {
			t.Errorf("op %d: %s, not %s", i, told(l[i]), told(a))
		}
	}
}

// P26.1: which worlds there are, and what a new one has.
func TestNew(t *testing.T) {
	for _, c := range []struct{ room, level int }{{-1, 6}, {math.MinInt, 6}, {api.MaxRoom + 1, 6}, {100, -1}, {100, 10}, {100, math.MaxInt}, {-1, -1}} {
		if w, e := New(c.room, c.level); w != nil || e != api.ErrArg {
			t.Errorf("%v: %v, %d", c, w != nil, e)
		}
		if l, e := Play(c.room, c.level, []Op{{Kind: List}}); len(l) != 0 || e != api.ErrArg {
			t.Errorf("%v: Play: %v, %d", c, l, e)
		}
	}
	for _, c := range []struct{ room, level int }{{0, 0}, {0, 9}, {api.MaxRoom, 0}, {api.MaxRoom, 9}} {
		w, e := New(c.room, c.level)
		if e != api.OK {
			t.Fatalf("%v: %d", c, e)
		}
		if l := w.Disk(); !slices.Equal(l, []api.Item{{Path: "log", Kind: api.File}}) || len(w.Made()) != 0 {
			t.Errorf("%v: %v, %v", c, l, w.Made())
		}
		fails(t, "List", w, Op{Kind: List}, api.OK)
		fails(t, "Verify", w, Op{Kind: Verify}, api.OK)
		fails(t, "Collect", w, Op{Kind: Collect}, api.OK)
		fails(t, "Forget", w, Op{Kind: Forget}, api.OK)
		fails(t, "Restore", w, Op{Kind: Restore}, api.ErrAbsent)
		fails(t, "Restore", w, Op{Kind: Restore, Pick: math.MinInt}, api.ErrAbsent)
		a := w.Do(Op{Kind: Backup})
		if c.room == 0 && told(a) != told(Answer{Errno: api.ErrSpace}) || c.room > 0 && len(a.Names) != 1 {
			t.Errorf("%v: Backup: %s", c, told(a))
		}
	}
}

// P26.1: the level is that of the packs.
func TestLevel(t *testing.T) {
	size := func(level int) int {
		w, _ := New(room, level)
		w.Do(Op{Kind: Backup, Items: file(strings.Repeat("deflated well, ", 300))})
		w.Do(Op{Kind: Crash})
		w.Do(Op{Kind: Backup, Items: file(strings.Repeat("stays, stays, ", 300))})
		n := 0
		for _, f := range w.Disk() {
			n += len(f.Data)
		}
		return n
	}
	if size(0) < size(9)+200 {
		t.Errorf("%d, %d bytes", size(0), size(9))
	}
}

// P26.1: a script without ops; Play is Do of each op in a new world.
func TestPlay(t *testing.T) {
	for _, none := range [][]Op{nil, {}} {
		if l, e := Play(100, 6, none); len(l) != 0 || e != api.OK {
			t.Errorf("%v, %d", l, e)
		}
	}
	for seed := range 10 {
		r := dice(seed)
		ops := append(scripted(r, 40, 1, 1, 1, 2, 3, 4, 5, 6, 7, 8, 9), wrong()...)
		w := fresh(t, 8000)
		l, e := Play(8000, 6, ops)
		if len(l) != len(ops) || e != api.OK {
			t.Fatalf("%d answers, %d", len(l), e)
		}
		for i, o := range ops {
			answers(t, fmt.Sprintf("script %d, op %d", seed, i), w, o, l[i])
		}
	}
}

// twin is a world by the chapter's words: the engine's own calls, and those of the disk.
type twin struct {
	t      *testing.T
	d      *disk.Disk
	g      *engine.Engine
	made   []string
	failed api.Errno
}

// rest: the remainder that isn't below 0.
func rest(number, of int) int {
	n := number % of
	if n < 0 {
		n += of
	}
	return n
}

// do: what is to be answered.
func (w *twin) do(o Op) Answer {
	switch {
	case o.Kind == 7:
		w.d.Arm(o.At)
		return Answer{}
	case o.Kind == 8:
		w.d.Crash(o.Keeps...)
		var e api.Errno
		if w.g, e = engine.Open(w.d, 6); e != api.OK {
			w.t.Fatalf("Open behind a crash: %d", e)
		}
		w.failed = api.OK
		return Answer{}
	case o.Kind == 9:
		names, _ := w.d.List()
		if len(names) == 0 {
			return Answer{Errno: api.ErrAbsent}
		}
		name := names[rest(o.Pick, len(names))]
		if body, _ := w.d.Read(name); body != "" {
			return Answer{Errno: w.d.Spoil(name, rest(o.At, len(body)), o.Byte)}
		}
		return Answer{Errno: api.ErrAbsent}
	case w.failed != api.OK:
		return Answer{Errno: w.failed}
	}
	var a Answer
	switch o.Kind {
	case 1:
		var name string
		if name, _, a.Errno = w.g.Backup(o.Items, o.Time, o.Tag); a.Errno == api.OK {
			a.Names = []string{name}
			w.made = append(w.made, name)
		}
	case 2:
		a.Snaps, a.Errno = w.g.List()
	case 3:
		a.Errno = api.ErrAbsent
		if len(w.made) > 0 {
			a.Items, a.Errno = w.g.Restore(w.made[rest(o.Pick, len(w.made))])
		}
	case 4:
		a.Names, a.Errno = w.g.Forget(o.Policy)
	case 5:
		a.Errno = w.g.Collect()
	case 6:
		a.Names, a.Errno = w.g.Verify()
	default:
		a.Errno = api.ErrKind
	}
	if a.Errno == api.ErrDead {
		w.failed = a.Errno
	}
	return a
}

// files: those of the disk.
func (w *twin) files() []api.Item {
	names, _ := w.d.List()
	var out []api.Item
	for _, name := range names {
		body, _ := w.d.Read(name)
		out = append(out, api.Item{Path: name, Kind: api.File, Data: body})
	}
	return out
}

// P26.1: scripts of all kinds by dice, on disks of some rooms, are answered as by the engine's own calls; and so are the names that were made, and the disk's files.
func TestDo(t *testing.T) {
	met := map[string]int{}
	for seed := range 40 {
		r := dice(seed)
		size := []int{room, 9000, 3000}[seed%3]
		w := fresh(t, size)
		d, _ := disk.New(size)
		engine.Init(d)
		g, _ := engine.Open(d, 6)
		other := &twin{t: t, d: d, g: g}
		ops := scripted(r, 80, 1, 1, 1, 1, 2, 3, 3, 4, 5, 6, 7, 8, 9)
		for range 10 {
			ops = slices.Insert(ops, r.IntN(len(ops)), wrong()[r.IntN(len(wrong()))])
		}
		for i, o := range ops {
			what := fmt.Sprintf("script %d, op %d, kind %d", seed, i, o.Kind)
			want := other.do(o)
			answers(t, what, w, o, want)
			met[fmt.Sprint(o.Kind, " ", want.Errno)]++
			if !slices.Equal(w.Made(), other.made) {
				t.Fatalf("%s: made %v, not %v", what, w.Made(), other.made)
			}
			if !slices.Equal(w.Disk(), other.files()) {
				t.Fatalf("%s: another disk", what)
			}
		}
	}
	for _, what := range []string{"1 0", "1 9", "1 10", "2 0", "2 10", "3 0", "3 7", "3 13", "4 0", "4 10", "5 0", "5 10", "5 13", "6 0", "7 0", "8 0", "9 0", "9 7", "0 12", "0 10"} {
		if met[what] == 0 {
			t.Errorf("kind and error %s never came: %v", what, met)
		}
	}
}

// P26.1: numbers are brought among what there is.
func TestNumbers(t *testing.T) {
	w := fresh(t, room)
	var names []string
	for i := range 3 {
		names = append(names, backed(t, w, fmt.Sprint("text ", i), 30-i))
	}
	if !slices.Equal(w.Made(), names) {
		t.Fatalf("made: %v", w.Made())
	}
	for pick, i := range map[int]int{0: 0, 1: 1, 2: 2, 3: 0, 7: 1, -1: 2, -3: 0, -5: 1, math.MaxInt: math.MaxInt % 3, math.MinInt: 3 + math.MinInt%3} {
		answers(t, fmt.Sprint("pick ", pick), w, Op{Kind: Restore, Pick: pick}, Answer{Items: file(fmt.Sprint("text ", i))})
	}
	files := w.Disk()
	for _, c := range []struct{ pick, at, file, place int }{{0, 0, 1, 0}, {2, 5, 2, 5}, {-1, -1, len(files) - 1, -1}, {len(files) + 3, math.MaxInt, 3, -2}, {-2 * len(files), 0, 0, 0}, {math.MinInt, math.MinInt, -1, -2}} {
		before := w.Disk()
		pick := rest(c.pick, len(files))
		data := before[pick].Data
		if data == "" {
			fails(t, "an empty file", w, Op{Kind: Spoil, Pick: c.pick, At: c.at}, api.ErrAbsent)
			continue
		}
		at := rest(c.at, len(data))
		b := data[at] ^ 1
		fails(t, "Spoil", w, Op{Kind: Spoil, Pick: c.pick, At: c.at, Byte: b}, api.OK)
		before[pick].Data = data[:at] + string([]byte{b}) + data[at+1:]
		if !slices.Equal(w.Disk(), before) {
			t.Errorf("%v: not this byte", c)
		}
	}
}

// P26.1: a snapshot that is made once more stands twice among those that were made; one that is forgotten stays there.
func TestMade(t *testing.T) {
	w := fresh(t, room)
	last := backed(t, w, "last", 9)
	first := backed(t, w, "first", 1)
	if again := backed(t, w, "first", 1); again != first {
		t.Fatalf("another name: %s", again)
	}
	if l := w.Made(); !slices.Equal(l, []string{last, first, first}) {
		t.Errorf("made: %v", l)
	}
	fails(t, "refused", w, Op{Kind: Backup, Time: -1}, api.ErrForm)
	answers(t, "Forget", w, Op{Kind: Forget, Policy: retain.Policy{Last: 1}}, Answer{Names: []string{first}})
	fails(t, "forgotten", w, Op{Kind: Restore, Pick: 2}, api.ErrAbsent)
	answers(t, "not forgotten", w, Op{Kind: Restore, Pick: 3}, Answer{Items: file("last")})
	w.Do(Op{Kind: Crash})
	if l := w.Made(); !slices.Equal(l, []string{last, first, first}) {
		t.Errorf("behind a crash: %v", l)
	}
}

// P26.1: once the disk has died all is answered by that, but Arm, Crash and Spoil, until a crash.
func TestDead(t *testing.T) {
	for _, kind := range []int{Backup, Forget, Collect} {
		w := fresh(t, room)
		name := backed(t, w, "one", 5)
		backed(t, w, "two", 6)
		w.Do(Op{Kind: Forget, Policy: retain.Policy{Last: 1}})
		fails(t, "Arm", w, Op{Kind: Arm}, api.OK)
		for _, reading := range []int{List, Verify} {
			if a := w.Do(Op{Kind: reading}); a.Errno != api.OK {
				t.Errorf("kind %d of an armed disk: %d", reading, a.Errno)
			}
		}
		fails(t, "dying", w, Op{Kind: kind, Items: file("three")}, api.ErrDead)
		for _, o := range append(wrong(), Op{Kind: Backup}, Op{Kind: List}, Op{Kind: Restore}, Op{Kind: Forget}, Op{Kind: Collect}, Op{Kind: Verify}) {
			fails(t, fmt.Sprint("dead, kind ", o.Kind), w, o, api.ErrDead)
		}
		fails(t, "dead, Spoil", w, Op{Kind: Spoil, Pick: 1}, api.ErrAbsent)
		for _, at := range []int{-1, 0, 5} {
			fails(t, "dead, Arm", w, Op{Kind: Arm, At: at}, api.OK)
			fails(t, "dead, List", w, Op{Kind: List}, api.ErrDead)
		}
		if l := w.Disk(); len(l) != 0 {
			t.Errorf("files of a dead disk: %v", l)
		}
		if l := w.Made(); len(l) != 2 || l[0] != name {
			t.Errorf("made: %v", l)
		}
		fails(t, "Crash", w, Op{Kind: Crash, Keeps: []int{1}}, api.OK)
		if l := w.Disk(); len(l) == 0 {
			t.Error("no files")
		}
		if a := w.Do(Op{Kind: Backup, Items: file("four"), Time: 7}); a.Errno != api.OK || len(a.Names) != 1 {
			t.Errorf("not armed any more: %s", told(a))
		}
		answers(t, "Restore", w, Op{Kind: Restore, Pick: -1}, Answer{Items: file("four")})
		fails(t, "Collect", w, Op{Kind: Collect}, api.OK)
	}
}

// P26.1: Arm counts from when it is asked; below 0 it is taken back.
func TestArm(t *testing.T) {
	w := fresh(t, room)
	fails(t, "Arm", w, Op{Kind: Arm, At: 2}, api.OK)
	fails(t, "Arm", w, Op{Kind: Arm, At: -5}, api.OK)
	backed(t, w, "one", 5)
	fails(t, "Arm", w, Op{Kind: Arm, At: 3}, api.OK)
	fails(t, "Crash", w, Op{Kind: Crash}, api.OK)
	backed(t, w, "two", 6)
	fails(t, "Arm", w, Op{Kind: Arm, At: 3}, api.OK)
	fails(t, "dying", w, Op{Kind: Backup, Items: file("three")}, api.ErrDead)
}

// P26.1: a crash behind which the engine can't be opened: its error answers for all but Arm, Crash and Spoil, until a crash is answered by OK.
func TestCrashRefused(t *testing.T) {
	w := fresh(t, room)
	name := backed(t, w, "one", 5)
	record := wal.Frame("what")
	w.disk.Append("log", record)
	w.disk.Sync("log")
	for range 2 {
		fails(t, "Crash", w, Op{Kind: Crash}, api.ErrLoss)
		for _, o := range append(wrong(), Op{Kind: Backup}, Op{Kind: List}, Op{Kind: Restore}, Op{Kind: Forget}, Op{Kind: Collect}, Op{Kind: Verify}) {
			fails(t, fmt.Sprint("refused, kind ", o.Kind), w, o, api.ErrLoss)
		}
		fails(t, "Arm", w, Op{Kind: Arm}, api.OK)
	}
	if l := w.Disk(); len(l) != 3 || l[0].Data != record || !slices.Equal(w.Made(), []string{name}) {
		t.Errorf("%v, %v", l, w.Made())
	}
	fails(t, "Spoil", w, Op{Kind: Spoil, Pick: 0, At: 5, Byte: 'x'}, api.OK)
	fails(t, "List", w, Op{Kind: List}, api.ErrLoss)
	fails(t, "Crash", w, Op{Kind: Crash}, api.OK)
	answers(t, "Restore", w, Op{Kind: Restore}, Answer{Items: file("one")})
}

// P26.1: a disk that has no log behind a crash gets one.
func TestCrashWithoutLog(t *testing.T) {
	w := fresh(t, room)
	name := backed(t, w, "one", 5)
	w.disk.Remove("log")
	w.disk.Settle()
	fails(t, "Crash", w, Op{Kind: Crash}, api.OK)
	answers(t, "List", w, Op{Kind: List}, Answer{Snaps: []api.Snap{{Id: name, Time: 5}}})
	answers(t, "Restore", w, Op{Kind: Restore}, Answer{Items: file("one")})
	answers(t, "Forget", w, Op{Kind: Forget}, Answer{Names: []string{name}})
	fails(t, "Collect", w, Op{Kind: Collect}, api.OK)
	if l := w.Disk(); !slices.Equal(l, []api.Item{{Path: "log", Kind: api.File}}) {
		t.Errorf("left: %v", l)
	}
}

// P26.1: a disk of which nothing can be spoilt.
func TestSpoilNothing(t *testing.T) {
	w := fresh(t, room)
	for _, pick := range []int{0, 1, -1} {
		fails(t, "the log alone", w, Op{Kind: Spoil, Pick: pick}, api.ErrAbsent)
	}
	w.disk.Remove("log")
	fails(t, "no file", w, Op{Kind: Spoil}, api.ErrAbsent)
	if l := w.Disk(); len(l) != 0 {
		t.Errorf("files: %v", l)
	}
}

// stand is what is to be answered as long as nothing is spoilt: the snapshots that stand, and the trees of all that were made.
type stand struct {
	snaps []api.Snap
	made  []string
	trees map[string][]api.Item
}

// with: the snapshots, and one more.
func (s *stand) with(snap api.Snap) []api.Snap {
	if slices.Contains(s.snaps, snap) {
		return s.snaps
	}
	out := append(slices.Clone(s.snaps), snap)
	slices.SortFunc(out, func(a, b api.Snap) int {
		if a.Time != b.Time {
			return a.Time - b.Time
		}
		return strings.Compare(a.Id, b.Id)
	})
	return out
}

// without: the snapshots but for some.
func (s *stand) without(gone []string) []api.Snap {
	return slices.DeleteFunc(slices.Clone(s.snaps), func(x api.Snap) bool { return slices.Contains(gone, x.Id) })
}

// holds: a living world's answer of an op is that of the snapshots that were made.
func (s *stand) holds(t *testing.T, what string, o Op, a Answer) {
	t.Helper()
	want := Answer{}
	switch o.Kind {
	case Backup:
		if len(a.Names) != 1 || len(a.Names[0]) != 64 {
			t.Fatalf("%s: Backup: %s", what, told(a))
		}
		name := a.Names[0]
		if tree, is := s.trees[name]; is && !slices.Equal(tree, o.Items) {
			t.Fatalf("%s: two trees have one name", what)
		}
		s.snaps, s.made = s.with(api.Snap{Id: name, Time: o.Time, Tag: o.Tag}), append(s.made, name)
		s.trees[name] = o.Items
		want.Names = a.Names
	case List:
		want.Snaps = s.snaps
	case Restore:
		want.Errno = api.ErrAbsent
		if len(s.made) > 0 {
			name := s.made[rest(o.Pick, len(s.made))]
			if slices.ContainsFunc(s.snaps, func(x api.Snap) bool { return x.Id == name }) {
				want = Answer{Items: s.trees[name]}
			}
		}
	case Forget:
		want.Names, _ = retain.Gone(o.Policy, s.snaps)
		s.snaps = s.without(want.Names)
	}
	if told(a) != told(want) {
		t.Fatalf("%s: %.300s, not %.300s", what, told(a), told(want))
	}
}

// P26.2: without crashes and spoilt bytes every answer is that of the snapshots that were made.
func TestSnapshots(t *testing.T) {
	for seed := range 25 {
		s := &stand{trees: map[string][]api.Item{}}
		ops := scripted(dice(100+seed), 150, 1, 1, 1, 2, 3, 3, 4, 5, 6)
		l, e := Play(room, 6, ops)
		if len(l) != len(ops) || e != api.OK {
			t.Fatalf("%d answers, %d", len(l), e)
		}
		for i, o := range ops {
			s.holds(t, fmt.Sprintf("script %d, op %d, kind %d", seed, i, o.Kind), o, l[i])
		}
	}
}

// crashed: behind a crash the snapshots are those from ahead of the op that died, or from behind it.
func (s *stand) crashed(t *testing.T, what string, died Op, now []api.Snap) {
	t.Helper()
	if slices.Equal(now, s.snaps) {
		return
	}
	want := s.snaps
	switch died.Kind {
	case Forget:
		gone, _ := retain.Gone(died.Policy, s.snaps)
		want = s.without(gone)
	case Backup:
		for _, x := range now {
			if !slices.Contains(s.snaps, x) {
				want = s.with(api.Snap{Id: x.Id, Time: died.Time, Tag: died.Tag})
				if tree, is := s.trees[x.Id]; is && !slices.Equal(tree, died.Items) {
					t.Fatalf("%s: two trees have one name", what)
				}
				s.trees[x.Id] = died.Items
				break
			}
		}
	}
	if !slices.Equal(now, want) {
		t.Fatalf("%s: %v, neither %v nor %v", what, now, s.snaps, want)
	}
	s.snaps = want
}

// P26.3: scripts by dice, with disks that die and crashes that keep what they are told: nothing is lost, or half there.
func TestCrashes(t *testing.T) {
	met := map[int]int{}
	for seed := range 60 {
		s := &stand{trees: map[string][]api.Item{}}
		w := fresh(t, room)
		var died Op
		for i, o := range scripted(dice(200+seed), 80, 1, 1, 1, 2, 3, 3, 4, 5, 6, 7, 7, 8) {
			what := fmt.Sprintf("script %d, op %d, kind %d", seed, i, o.Kind)
			a := w.Do(o)
			switch {
			case o.Kind == Crash:
				if told(a) != told(Answer{}) {
					t.Fatalf("%s: %s", what, told(a))
				}
				s.crashed(t, what, died, w.Do(Op{Kind: List}).Snaps)
				died = Op{}
				verified(t, what, w, s)
			case o.Kind == Arm:
				if told(a) != told(Answer{}) {
					t.Fatalf("%s: %s", what, told(a))
				}
			case died.Kind != 0 || a.Errno == api.ErrDead:
				if told(a) != told(Answer{Errno: api.ErrDead}) {
					t.Fatalf("%s: %s", what, told(a))
				}
				if died.Kind == 0 {
					died = o
					met[o.Kind]++
				}
			default:
				s.holds(t, what, o, a)
			}
		}
	}
	if met[Backup] == 0 || met[Forget] == 0 || met[Collect] == 0 || len(met) != 3 {
		t.Errorf("died in: %v", met)
	}
}

// verified: no snapshot is refused, and each that stands and was made is restored.
func verified(t *testing.T, what string, w *World, s *stand) {
	t.Helper()
	answers(t, what, w, Op{Kind: Verify}, Answer{})
	for i := range s.made {
		o := Op{Kind: Restore, Pick: i}
		s.holds(t, what, o, w.Do(o))
	}
}

// P26.4: whatever the script, on whatever disk: what is restored is the tree that was made under this name, or there is an error.
func TestSure(t *testing.T) {
	met := map[api.Errno]int{}
	for seed := range 60 {
		w := fresh(t, []int{room, 12000, 4000}[seed%3])
		var trees [][]api.Item
		for i, o := range scripted(dice(300+seed), 80, 1, 1, 1, 3, 3, 3, 4, 5, 6, 7, 8, 8, 9, 9) {
			a := w.Do(o)
			if o.Kind == Backup && a.Errno == api.OK {
				trees = append(trees, o.Items)
			}
			if o.Kind != Restore {
				continue
			}
			met[a.Errno]++
			if a.Errno != api.OK && len(a.Items) > 0 || a.Errno == api.OK && !slices.Equal(a.Items, trees[rest(o.Pick, len(trees))]) {
				t.Fatalf("script %d, op %d: %s", seed, i, told(a))
			}
		}
	}
	if met[api.OK] == 0 || met[api.ErrLoss] == 0 || met[api.ErrAbsent] == 0 || met[api.ErrDead] == 0 {
		t.Errorf("restored: %v", met)
	}
}

// P26.5: the same script, again and on disks of other rooms, is answered in the same way, up to where a disk has no room.
func TestRooms(t *testing.T) {
	full := 0
	for seed := range 30 {
		ops := scripted(dice(400+seed), 60, 1, 1, 1, 2, 3, 4, 5, 6, 7, 8, 9)
		want, _ := Play(api.MaxRoom, 6, ops)
		for _, size := range []int{api.MaxRoom, room, 20000, 6000, 3000, 1500, 0} {
			l, e := Play(size, 6, ops)
			if len(l) != len(ops) || e != api.OK {
				t.Fatalf("%d answers, %d", len(l), e)
			}
			for i := range l {
				if l[i].Errno == api.ErrSpace {
					full++
					break
				}
				if told(l[i]) != told(want[i]) {
					t.Fatalf("script %d, room %d, op %d: %.300s, not %.300s", seed, size, i, told(l[i]), told(want[i]))
				}
			}
		}
	}
	if full < 30 {
		t.Errorf("full only %d times", full)
	}
}

// P26.1, P25.2: on a disk with little room: an op that it has no room for changes no other answer.
func TestFull(t *testing.T) {
	var great []api.Item
	for i := range 155 {
		great = append(great, api.Item{Path: fmt.Sprint(i), Kind: api.File, Data: fmt.Sprint("text ", i)})
	}
	full := 0
	for seed := range 60 {
		r := dice(500 + seed)
		size := 1500 + r.IntN(9000)
		ops := scripted(r, 60, 1, 1, 1, 1, 2, 3, 4, 5, 6)
		if seed%3 == 0 {
			// Room for the first of its packs, and for little else.
			size = 33000 + r.IntN(4000)
			ops[r.IntN(5)] = Op{Kind: Backup, Items: great}
		}
		want, _ := Play(size, 6, ops)
		at := slices.IndexFunc(want, func(a Answer) bool { return a.Errno == api.ErrSpace })
		if at < 0 {
			continue
		}
		full++
		ops, want = slices.Delete(ops, at, at+1), slices.Delete(want, at, at+1)
		l, _ := Play(size, 6, ops)
		for i, a := range l {
			if told(a) != told(want[i]) {
				t.Fatalf("script %d without op %d: op %d, kind %d: %.300s, not %.300s", seed, at, i, ops[i].Kind, told(a), told(want[i]))
			}
		}
	}
	if full < 40 {
		t.Errorf("full only %d times", full)
	}
}

// P26.1: what is handed in isn't changed or kept; answers are new memory.
func TestNotChanged(t *testing.T) {
	w := fresh(t, room)
	tree := []api.Item{{Path: "b", Kind: api.File, Data: "text"}, {Path: "a", Kind: api.Link, Data: "to"}, {Path: "spare"}}
	before := slices.Clone(tree)
	keeps, tags := []int{7, -3, 2}, []string{"x", "y", "z"}
	a := w.Do(Op{Kind: Backup, Items: tree[:2], Tag: "z"})
	if !slices.Equal(tree, before) {
		t.Error("items have changed")
	}
	clear(tree)
	name := a.Names[0]
	a.Names[0] = ""
	w.Made()[0] = ""
	w.Do(Op{Kind: List}).Snaps[0].Id = ""
	w.Do(Op{Kind: Restore}).Items[0].Path = ""
	w.Disk()[0].Path = ""
	w.Do(Op{Kind: Crash, Keeps: keeps[:2]})
	if !slices.Equal(keeps, []int{7, -3, 2}) {
		t.Errorf("keeps: %v", keeps)
	}
	if !slices.Equal(w.Made(), []string{name}) || w.Disk()[0].Path != "log" {
		t.Errorf("%v", w.Made())
	}
	answers(t, "List", w, Op{Kind: List}, Answer{Snaps: []api.Snap{{Id: name, Tag: "z"}}})
	answers(t, "Restore", w, Op{Kind: Restore}, Answer{Items: []api.Item{before[1], before[0]}})
	answers(t, "Forget", w, Op{Kind: Forget, Policy: retain.Policy{Tags: tags[:2]}}, Answer{Names: []string{name}})
	if !slices.Equal(tags, []string{"x", "y", "z"}) {
		t.Errorf("tags: %v", tags)
	}
}
