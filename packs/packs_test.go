package packs

import (
	"archive/zip"
	"crypto/sha256"
	"fmt"
	"io"
	"math"
	"math/rand/v2"
	"slices"
	"strings"
	"testing"

	"cellarer/api"
	"cellarer/disk"
	"cellarer/zipfmt"
)

// dice: the same numbers in every run.
func dice() *rand.Rand {
	return rand.New(rand.NewPCG(24, 16))
}

// randomText: n bytes, each one of the first few.
func randomText(r *rand.Rand, n, few int) string {
	out := make([]byte, n)
	for i := range out {
		out[i] = byte(r.IntN(few))
	}
	return string(out)
}

// sha: a name of bytes, by the library.
func sha(s string) string {
	return fmt.Sprintf("%x", sha256.Sum256([]byte(s)))
}

// numbered: so many unlike chunks of so many bytes.
func numbered(n, size int) []string {
	var out []string
	for i := range n {
		out = append(out, fmt.Sprintf("%04d", i)+strings.Repeat("x", size-4))
	}
	return out
}

// fresh: an empty disk of that room.
func fresh(t *testing.T, room int) *disk.Disk {
	t.Helper()
	d, e := disk.New(room)
	if e != api.OK {
		t.Fatalf("disk: %d", e)
	}
	return d
}

// ok: calls that are to be answered by OK.
func ok(t *testing.T, all ...api.Errno) {
	t.Helper()
	for i, e := range all {
		if e != api.OK {
			t.Fatalf("call %d: %d", i, e)
		}
	}
}

// is: a call that is to be answered by want.
func is(t *testing.T, what string, got, want api.Errno) {
	t.Helper()
	if got != want {
		t.Errorf("%s: %d, not %d", what, got, want)
	}
}

// lay: a file with these bytes, safely.
func lay(t *testing.T, d *disk.Disk, name, data string) {
	t.Helper()
	ok(t, d.Append(name, data), d.Sync(name), d.Settle())
}

// built: a pack of these chunks, which must be no error.
func built(t *testing.T, level int, chunks ...string) (string, string) {
	t.Helper()
	name, s, e := Build(chunks, level)
	if e != api.OK {
		t.Fatalf("Build: %d", e)
	}
	return name, s
}

// archive: an archive of any files.
func archive(t *testing.T, files ...zipfmt.File) string {
	t.Helper()
	slices.SortFunc(files, func(a, b zipfmt.File) int { return strings.Compare(a.Name, b.Name) })
	s, e := zipfmt.Write(files, 6)
	if e != api.OK {
		t.Fatalf("Write: %d", e)
	}
	return s
}

// holds: all files of a disk, as a name and its bytes each.
func holds(t *testing.T, what string, d *disk.Disk, want ...string) {
	t.Helper()
	names, e := d.List()
	if e != api.OK {
		t.Fatalf("%s: List: %d", what, e)
	}
	var got []string
	for _, name := range names {
		s, _ := d.Read(name)
		got = append(got, name, s)
	}
	if !slices.Equal(got, want) {
		t.Fatalf("%s: %.300q, not %.300q", what, got, want)
	}
}

// with: a text with a byte replaced.
func with(s string, at int, c byte) string {
	return s[:at] + string([]byte{c}) + s[at+1:]
}

// P16.1: the names are the document's.
func TestNamesOfFiles(t *testing.T) {
	if Temp != "tmp" || Front != "p" {
		t.Error(Temp, Front)
	}
}

// P16.1: a pack is called by its bytes, and those are zipfmt's; any zip program reads the chunks.
func TestBuild(t *testing.T) {
	r := dice()
	for level := range 10 {
		chunks := []string{"a", strings.Repeat("bc", 500), "\x00", randomText(r, 4096, 256), randomText(r, 4096, 3), "z"}
		name, s := built(t, level, chunks...)
		if len(name) != 65 || name != "p"+sha(s) {
			t.Errorf("level %d: %s", level, name)
		}
		var files []zipfmt.File
		for _, c := range chunks {
			files = append(files, zipfmt.File{Name: sha(c), Data: c})
		}
		slices.SortFunc(files, func(a, b zipfmt.File) int { return strings.Compare(a.Name, b.Name) })
		if want, e := zipfmt.Write(files, level); e != api.OK || want != s {
			t.Errorf("level %d: %d bytes, not %d", level, len(s), len(want))
		}
		z, err := zip.NewReader(strings.NewReader(s), int64(len(s)))
		if err != nil || len(z.File) != len(chunks) {
			t.Fatalf("level %d: %v", level, err)
		}
		for _, f := range z.File {
			data, err := f.Open()
			if err != nil {
				t.Fatal(err)
			}
			all, err := io.ReadAll(data)
			if err != nil || sha(string(all)) != f.Name || !slices.Contains(chunks, string(all)) {
				t.Errorf("level %d: %s: %v", level, f.Name, err)
			}
		}
	}
}

// P16.1: the order of chunks doesn't show, and isn't changed.
func TestBuildOrder(t *testing.T) {
	r := dice()
	chunks := numbered(60, 30)
	name, s := built(t, 6, chunks...)
	for range 20 {
		r.Shuffle(len(chunks), func(i, j int) { chunks[i], chunks[j] = chunks[j], chunks[i] })
		room := append(slices.Clone(chunks), "behind", "behind")
		was := slices.Clone(room)
		again, same, e := Build(room[:60], 6)
		if e != api.OK || again != name || same != s {
			t.Fatalf("%s, %d, not %s", again, e, name)
		}
		if !slices.Equal(room, was) {
			t.Fatal("what was handed in has changed")
		}
	}
	if other, _ := built(t, 0, chunks...); other == name {
		t.Error("the level doesn't show")
	}
}

// P16.1: errors at the bounds, and which of them comes first.
func TestBuildErrors(t *testing.T) {
	most := strings.Repeat("x", 4096)
	full := numbered(32, 4096)
	join := func(l []string, more ...string) []string { return append(slices.Clone(l), more...) }
	for _, c := range []struct {
		what   string
		chunks []string
		level  int
		want   api.Errno
	}{
		{"one", []string{"a"}, 6, api.OK},
		{"none", nil, 6, api.ErrForm},
		{"none, empty", []string{}, 0, api.ErrForm},
		{"an empty one", []string{""}, 6, api.ErrForm},
		{"an empty one among others", []string{"a", "", "b"}, 6, api.ErrForm},
		{"twice", []string{"a", "a"}, 6, api.ErrThere},
		{"twice, apart", []string{"a", "b", "c", "a"}, 6, api.ErrThere},
		{"4096", []string{most}, 6, api.OK},
		{"4097", []string{most + "x"}, 6, api.ErrBig},
		{"4097, last", []string{"a", most + "x"}, 6, api.ErrBig},
		{"131072", full, 1, api.OK},
		{"131073", join(full, "a"), 1, api.ErrBig},
		{"131072 and an empty one", join(full, ""), 1, api.ErrForm},
		{"131071 and one", join(full[:31], full[31][:4095], "a"), 1, api.OK},
		{"131071 and two", join(full[:31], full[31][:4095], "a", "b"), 1, api.ErrBig},
		{"200", numbered(200, 20), 1, api.OK},
		{"201", numbered(201, 20), 1, api.ErrBig},
		{"200 of 655", numbered(200, 655), 0, api.OK},
		{"level 9", []string{"a"}, 9, api.OK},
		{"level 0", []string{"a"}, 0, api.OK},
		{"level -1", []string{"a"}, -1, api.ErrArg},
		{"level 10", []string{"a"}, 10, api.ErrArg},
		{"the greatest level", []string{"a"}, math.MaxInt, api.ErrArg},
		{"the least level", []string{"a"}, math.MinInt, api.ErrArg},
		{"the level first", nil, 10, api.ErrArg},
		{"the level ahead of 201", numbered(201, 20), -1, api.ErrArg},
		{"201 ahead of an empty one", join([]string{""}, numbered(200, 20)...), 6, api.ErrBig},
		{"200 with an empty one", join([]string{""}, numbered(199, 20)...), 6, api.ErrForm},
		{"an empty one ahead of 4097", []string{"", most + "x"}, 6, api.ErrForm},
		{"4097 ahead of an empty one", []string{most + "x", ""}, 6, api.ErrBig},
		{"131073 ahead of an empty one", join(full, "a", ""), 6, api.ErrBig},
		{"an empty one ahead of 131073", join([]string{""}, join(full, "a")...), 6, api.ErrForm},
		{"an empty one ahead of twice", []string{"a", "a", ""}, 6, api.ErrForm},
		{"4097 ahead of twice", []string{"a", "a", most + "x"}, 6, api.ErrBig},
		{"131073 ahead of twice", slices.Repeat([]string{most}, 33), 6, api.ErrBig},
		{"131072, twice", slices.Repeat([]string{most}, 32), 6, api.ErrThere},
	} {
		name, s, e := Build(c.chunks, c.level)
		if e != c.want || e != api.OK && (name != "" || s != "") || e == api.OK && name != "p"+sha(s) {
			t.Errorf("%s: %q, %d bytes, %d, not %d", c.what, name, len(s), e, c.want)
		}
	}
}

// P16.1: fronts of any length, and what isn't 64 digits.
func TestIs(t *testing.T) {
	digits := sha("x")
	for _, front := range []string{"", "p", "s", "pp", "p/", "\x00", digits, strings.Repeat("é", 100)} {
		if !Is(front, front+digits) {
			t.Errorf("%q: no", front)
		}
		for _, rest := range []string{"", digits[:63], digits + "0", strings.ToUpper(sha("abc")), digits[:63] + "g", " " + digits[1:], digits[:63] + "\x00", "p" + digits} {
			if Is(front, front+rest) {
				t.Errorf("%q and %q", front, rest)
			}
		}
	}
	for _, c := range [][2]string{{"p", digits}, {"p", "s" + digits}, {"p", "P" + digits}, {"", "p" + digits}, {"p", ""}, {"", ""}, {"p" + digits, "p"}, {"p", digits + "p"}, {"pp", "p" + digits}} {
		if Is(c[0], c[1]) {
			t.Errorf("%q, %q", c[0], c[1])
		}
	}
	// A front may be digits as well: the rest has to be just 64.
	if !Is("a", "a"+digits) || Is("a", digits) || !Is("", strings.Repeat("a", 64)) || Is("a", strings.Repeat("a", 64)) || !Is("a", strings.Repeat("a", 65)) {
		t.Error("digits ahead of digits")
	}
}

// P16.2: what was published is there, safely; what stands beside it is as it was.
func TestPublish(t *testing.T) {
	r := dice()
	for _, name := range []string{"a", "p" + sha("x"), "log", strings.Repeat("n", 80), "tmp1", "~"} {
		d := fresh(t, 100000)
		lay(t, d, "!", "beside")
		for _, data := range []string{"x", "", randomText(r, 5000, 256), "y", "y"} {
			ok(t, Publish(d, name, data))
			for range 2 {
				holds(t, name, d, "!", "beside", name, data)
				d.Crash()
			}
		}
	}
}

// P16.2: what was being made when the disk crashed is no part of what is published.
func TestPublishBesideTemp(t *testing.T) {
	for _, left := range []string{"", "left"} {
		d := fresh(t, 1000)
		lay(t, d, Temp, left)
		ok(t, Publish(d, "a", "x"))
		holds(t, "published", d, "a", "x")
		d.Crash()
		holds(t, "behind a crash", d, "a", "x")
	}
	// Not even if it isn't safe that it is there.
	d := fresh(t, 1000)
	ok(t, d.Append(Temp, "left"), Publish(d, "a", "x"))
	d.Crash()
	holds(t, "behind a crash", d, "a", "x")
}

// P16.2: a file that is called tmp may be published, too.
func TestPublishTemp(t *testing.T) {
	for _, left := range []string{"", "x", "xy", "y"} {
		d := fresh(t, 3)
		lay(t, d, Temp, left)
		ok(t, Publish(d, Temp, "xy"))
		d.Crash()
		holds(t, "tmp", d, Temp, "xy")
	}
}

// P16.2: a file that has these bytes but isn't safe becomes safe, and needs no room.
func TestPublishThere(t *testing.T) {
	unsafe := map[string]func(d *disk.Disk) []api.Errno{
		"nothing safe":   func(d *disk.Disk) []api.Errno { return []api.Errno{d.Append("a", "xyz")} },
		"the bytes safe": func(d *disk.Disk) []api.Errno { return []api.Errno{d.Append("a", "xyz"), d.Sync("a")} },
		"the name safe":  func(d *disk.Disk) []api.Errno { return []api.Errno{d.Append("a", "xyz"), d.Settle()} },
		"some bytes safe": func(d *disk.Disk) []api.Errno {
			return []api.Errno{d.Append("a", "xy"), d.Sync("a"), d.Settle(), d.Append("a", "z")}
		},
		"another name safe": func(d *disk.Disk) []api.Errno {
			return []api.Errno{d.Append("b", "xyz"), d.Sync("b"), d.Settle(), d.Rename("b", "a")}
		},
		"all safe": func(d *disk.Disk) []api.Errno {
			return []api.Errno{d.Append("a", "xyz"), d.Sync("a"), d.Settle()}
		},
	}
	for what, set := range unsafe {
		d := fresh(t, 3)
		ok(t, set(d)...)
		is(t, "full", d.Append("b", "1"), api.ErrSpace)
		ok(t, Publish(d, "a", "xyz"))
		holds(t, what, d, "a", "xyz")
		d.Crash()
		holds(t, what, d, "a", "xyz")
	}
}

// P16.2: the folder is settled, whatever else was done to it.
func TestPublishSettles(t *testing.T) {
	for _, data := range []string{"x", "y"} {
		d := fresh(t, 100)
		lay(t, d, "a", "x")
		lay(t, d, "gone", "1")
		ok(t, d.Append("b", ""), d.Remove("gone"), Publish(d, "a", data))
		d.Crash()
		holds(t, "settled", d, "a", data, "b", "")
	}
}

// P16.2: room to the very byte, beside what is there; nothing has changed then.
func TestPublishSpace(t *testing.T) {
	d := fresh(t, 10)
	lay(t, d, "a", "123")
	lay(t, d, "b", "45")
	for _, name := range []string{"a", "c"} {
		is(t, name, Publish(d, name, "678901"), api.ErrSpace)
		holds(t, name, d, "a", "123", "b", "45")
	}
	lay(t, d, Temp, "left")
	is(t, "what is left over takes no room", Publish(d, "a", "67890"), api.OK)
	holds(t, "five bytes", d, "a", "67890", "b", "45")
	is(t, "seven and four", Publish(d, "c", "1234"), api.ErrSpace)
	is(t, "as it is", Publish(d, "b", "45"), api.OK)
	d.Crash(1)
	holds(t, "behind a crash", d, "a", "67890", "b", "45")
	ok(t, Publish(d, "c", "123"), Publish(d, "d", ""))
	holds(t, "full", d, "a", "67890", "b", "45", "c", "123", "d", "")
}

// P16.2: what is no name; nothing is done then. Being dead goes ahead.
func TestPublishPath(t *testing.T) {
	for _, name := range []string{"", " ", "a/b", "é", "\x00", strings.Repeat("n", 81)} {
		d := fresh(t, 10)
		lay(t, d, "a", "x")
		for _, data := range []string{"", "y", "12345678901234"} {
			is(t, name, Publish(d, name, data), api.ErrPath)
			holds(t, name, d, "a", "x")
		}
		d.Arm(0)
		is(t, "dies", d.Settle(), api.ErrDead)
		is(t, "dead", Publish(d, name, "y"), api.ErrDead)
		is(t, "dead", Publish(d, "a", "x"), api.ErrDead)
		is(t, "dead", Publish(d, "b", "12345678901234"), api.ErrDead)
	}
}

// P16.2, P16.5: a file is loaded just under the name of its bytes.
func TestLoad(t *testing.T) {
	name, s := built(t, 6, "a", "bc")
	d := fresh(t, 100000)
	ok(t, Publish(d, name, s), Publish(d, "s"+sha("text"), "text"), Publish(d, sha(""), ""), Publish(d, "p"+sha("other"), "not so"))
	for _, c := range []struct {
		front, name, want string
		e                 api.Errno
	}{
		{"p", name, s, api.OK},
		{"s", "s" + sha("text"), "text", api.OK},
		{"", sha(""), "", api.OK},
		{"p", "p" + sha("other"), "", api.ErrLoss},
		{"p", "p" + sha("absent"), "", api.ErrAbsent},
		{"s", name, "", api.ErrForm},
		{"", name, "", api.ErrForm},
		{"p", name[1:], "", api.ErrForm},
		{"p", name[:64], "", api.ErrForm},
		{"p", name + "0", "", api.ErrForm},
		{"p", strings.ToUpper(name), "", api.ErrForm},
		{"p", "", "", api.ErrForm},
		{"", "", "", api.ErrForm},
		{strings.Repeat("p", 20), strings.Repeat("p", 20) + sha("text"), "", api.ErrAbsent},
		{"/", "/" + sha("text"), "", api.ErrAbsent},
	} {
		if got, e := Load(d, c.front, c.name); got != c.want || e != c.e {
			t.Errorf("%q, %q: %d bytes, %d, not %d", c.front, c.name, len(got), e, c.e)
		}
	}
	d.Arm(0)
	is(t, "dies", d.Settle(), api.ErrDead)
	for front, want := range map[string]api.Errno{"p": api.ErrDead, "s": api.ErrForm} {
		for _, name := range []string{name, "p" + sha("other"), "p" + sha("absent")} {
			if got, e := Load(d, front, name); got != "" || e != want {
				t.Errorf("dead: %q, %q: %d, not %d", front, name, e, want)
			}
		}
	}
}

// P16.5, P4: whatever byte is spoilt.
func TestLoadSpoilt(t *testing.T) {
	name, s := built(t, 6, "a", strings.Repeat("bc", 50))
	d := fresh(t, 10000)
	for at := range len(s) {
		ok(t, Publish(d, name, s), d.Spoil(name, at, s[at]^1<<(at%8)))
		if got, e := Load(d, "p", name); got != "" || e != api.ErrLoss {
			t.Fatalf("byte %d: %d bytes, %d", at, len(got), e)
		}
	}
	// Published anew it is sound again.
	ok(t, Publish(d, name, s))
	if got, e := Load(d, "p", name); got != s || e != api.OK {
		t.Errorf("anew: %d", e)
	}
	ok(t, d.Append(name, "x"))
	if got, e := Load(d, "p", name); got != "" || e != api.ErrLoss {
		t.Errorf("a byte more: %d", e)
	}
}

// P16.2: of all files those that are called so, whatever their bytes.
func TestNames(t *testing.T) {
	d := fresh(t, 100000)
	if l, e := Names(d, "p"); len(l) != 0 || e != api.OK {
		t.Errorf("none: %q, %d", l, e)
	}
	want := map[string][]string{}
	for i := range 40 {
		digits := sha(fmt.Sprint(i))
		for _, front := range []string{"p", "s", "", "pp"} {
			ok(t, Publish(d, front+digits, "x"))
			want[front] = append(want[front], front+digits)
		}
		ok(t, Publish(d, "p"+digits[:63], ""), Publish(d, "p"+digits[:63]+"G", ""), Publish(d, "p"+digits+"0", ""), Publish(d, "p"+digits[:63]+"A", ""))
	}
	ok(t, Publish(d, "p", ""), Publish(d, "log", ""), d.Append(Temp, ""))
	for _, front := range []string{"p", "s", "", "pp"} {
		slices.Sort(want[front])
		l, e := Names(d, front)
		if e != api.OK || !slices.Equal(l, want[front]) {
			t.Errorf("%q: %d names, %d, not %d", front, len(l), e, len(want[front]))
		}
	}
	for _, front := range []string{"q", "P", strings.Repeat("p", 17), "/"} {
		if l, e := Names(d, front); len(l) != 0 || e != api.OK {
			t.Errorf("%q: %q, %d", front, l, e)
		}
	}
	d.Arm(0)
	is(t, "dies", d.Settle(), api.ErrDead)
	if l, e := Names(d, "p"); len(l) != 0 || e != api.ErrDead {
		t.Errorf("dead: %q, %d", l, e)
	}
}

// P16.3: the heads of a pack are zipfmt's, and each says a chunk.
func TestHeadsChunk(t *testing.T) {
	r := dice()
	for range 60 {
		chunks := map[string]string{}
		var l []string
		for i := range 1 + r.IntN(12) {
			c := fmt.Sprint(i) + randomText(r, r.IntN(4094), 1+r.IntN(256))
			chunks[sha(c)] = c
			l = append(l, c)
		}
		_, s := built(t, r.IntN(10), l...)
		heads, e := Heads(s)
		if want, _ := zipfmt.Heads(s); e != api.OK || !slices.Equal(heads, want) || len(heads) != len(l) {
			t.Fatalf("Heads: %d heads, %d", len(heads), e)
		}
		for _, h := range heads {
			if c, e := Chunk(s, h); e != api.OK || c != chunks[h.Name] || c == "" {
				t.Errorf("Chunk: %d bytes, %d", len(c), e)
			}
		}
	}
}

// P16.3: archives that are no packs.
func TestHeadsLoss(t *testing.T) {
	most := strings.Repeat("x", 4096)
	good := zipfmt.File{Name: sha("a"), Data: "a"}
	_, pack := built(t, 6, "a", "bc")
	for _, c := range []struct {
		what, s string
		want    api.Errno
	}{
		{"a pack", pack, api.OK},
		{"no files", archive(t), api.OK},
		{"a chunk that isn't called so", archive(t, zipfmt.File{Name: sha("b"), Data: "a"}), api.OK},
		{"4096", archive(t, zipfmt.File{Name: sha(most), Data: most}), api.OK},
		{"4097", archive(t, zipfmt.File{Name: sha(most + "x"), Data: most + "x"}), api.ErrLoss},
		{"4097 beside a good one", archive(t, good, zipfmt.File{Name: sha(most + "x"), Data: most + "x"}), api.ErrLoss},
		{"an empty one", archive(t, zipfmt.File{Name: sha(""), Data: ""}), api.ErrLoss},
		{"an empty one beside a good one", archive(t, good, zipfmt.File{Name: sha(""), Data: ""}), api.ErrLoss},
		{"another name", archive(t, zipfmt.File{Name: "a", Data: "a"}), api.ErrLoss},
		{"great letters", archive(t, zipfmt.File{Name: strings.ToUpper(sha("a")), Data: "a"}), api.ErrLoss},
		{"63 digits beside a good one", archive(t, good, zipfmt.File{Name: sha("b")[:63], Data: "b"}), api.ErrLoss},
		{"nothing", "", api.ErrLoss},
		{"no archive", strings.Repeat("x", 1000), api.ErrLoss},
		{"too long", strings.Repeat("\x00", zipfmt.MaxBytes) + pack, api.ErrLoss},
		{"a byte wanting", pack[:len(pack)-1], api.ErrLoss},
		{"a byte more", pack + "\x00", api.ErrLoss},
		{"names that fall", zipfmt.Index([]zipfmt.Head{{Name: strings.Repeat("b", 64), Size: 1}, {Name: strings.Repeat("a", 64), Size: 1}}, 0), api.ErrLoss},
		{"a name twice", zipfmt.Index([]zipfmt.Head{{Name: sha("a"), Size: 1}, {Name: sha("a"), Size: 1}}, 0), api.ErrLoss},
		{"a great number", zipfmt.Index([]zipfmt.Head{{Name: sha("a"), Size: math.MaxUint32}}, 0), api.ErrLoss},
		{"a size that stands alone", zipfmt.Index([]zipfmt.Head{{Name: sha("a"), Size: 4096, Packed: 70000, Method: 9}}, 0), api.OK},
	} {
		if l, e := Heads(c.s); e != c.want || e != api.OK && len(l) != 0 {
			t.Errorf("%s: %d heads, %d, not %d", c.what, len(l), e, c.want)
		}
	}
}

// P16.3, P16.5: heads that a pack doesn't have, and chunks that aren't called so.
func TestChunkLoss(t *testing.T) {
	_, s := built(t, 6, "a", strings.Repeat("bc", 300))
	heads, _ := Heads(s)
	h := heads[0]
	changed := func(change func(h *zipfmt.Head)) zipfmt.Head {
		h := h
		change(&h)
		return h
	}
	for i, h := range []zipfmt.Head{
		{},
		changed(func(h *zipfmt.Head) { h.At = heads[1].At }),
		changed(func(h *zipfmt.Head) { h.At = -1 }),
		changed(func(h *zipfmt.Head) { h.At = math.MaxInt }),
		changed(func(h *zipfmt.Head) { h.At = math.MinInt }),
		changed(func(h *zipfmt.Head) { h.Size++ }),
		changed(func(h *zipfmt.Head) { h.Size = -1 }),
		changed(func(h *zipfmt.Head) { h.Packed-- }),
		changed(func(h *zipfmt.Head) { h.Packed = math.MinInt }),
		changed(func(h *zipfmt.Head) { h.Crc++ }),
		changed(func(h *zipfmt.Head) { h.Method ^= 8 }),
		changed(func(h *zipfmt.Head) { h.Method = 9 }),
		changed(func(h *zipfmt.Head) { h.Name = heads[1].Name }),
		changed(func(h *zipfmt.Head) { h.Name = "" }),
		changed(func(h *zipfmt.Head) { h.Name = strings.ToUpper(h.Name) }),
	} {
		if c, e := Chunk(s, h); c != "" || e != api.ErrLoss {
			t.Errorf("head %d: %q, %d", i, c, e)
		}
	}
	if c, e := Chunk("", h); c != "" || e != api.ErrLoss {
		t.Errorf("of nothing: %q, %d", c, e)
	}
	for _, name := range []string{sha("b"), "a", strings.ToUpper(sha("a"))} {
		other := archive(t, zipfmt.File{Name: name, Data: "a"})
		l, _ := zipfmt.Heads(other)
		if data, e := zipfmt.Open(other, l[0]); data != "a" || e != api.OK {
			t.Fatalf("zipfmt.Open: %d", e)
		}
		if c, e := Chunk(other, l[0]); c != "" || e != api.ErrLoss {
			t.Errorf("called %s: %q, %d", name, c, e)
		}
	}
	// The bound on a chunk's size is that of Heads, not of Chunk.
	for _, data := range []string{"", strings.Repeat("x", 5000)} {
		other := archive(t, zipfmt.File{Name: sha(data), Data: data})
		l, _ := zipfmt.Heads(other)
		if c, e := Chunk(other, l[0]); c != data || e != api.OK {
			t.Errorf("%d bytes: %d bytes, %d", len(data), len(c), e)
		}
	}
}

// P16.5, P4: whatever byte of a pack is spoilt, a chunk is the one that was asked for, or none.
func TestChunkSure(t *testing.T) {
	r := dice()
	chunks := []string{"a", strings.Repeat("bc", 100), randomText(r, 50, 256)}
	_, s := built(t, 6, chunks...)
	heads, _ := Heads(s)
	lost := 0
	for at := range len(s) {
		for _, flip := range []byte{1, 2, 16, 128, 255} {
			other := with(s, at, s[at]^flip)
			all := slices.Clone(heads)
			if l, e := Heads(other); e == api.OK {
				all = append(all, l...)
			} else if e != api.ErrLoss {
				t.Fatalf("byte %d: Heads: %d", at, e)
			}
			for _, h := range all {
				c, e := Chunk(other, h)
				if e == api.OK && (sha(c) != h.Name || !slices.Contains(chunks, c)) || e != api.OK && (c != "" || e != api.ErrLoss) {
					t.Fatalf("byte %d: %q, %d", at, c, e)
				}
				if e != api.OK {
					lost++
				}
			}
		}
	}
	if lost < 1000 {
		t.Errorf("%d lost, too few to tell", lost)
	}
}

// P16.2: what was being made is gone, safely; else nothing is done.
func TestScavenge(t *testing.T) {
	for _, data := range []string{"", "left"} {
		d := fresh(t, 100)
		lay(t, d, Temp, data)
		lay(t, d, "tmp1", "x")
		ok(t, Scavenge(d))
		holds(t, "gone", d, "tmp1", "x")
		d.Crash()
		holds(t, "behind a crash", d, "tmp1", "x")
	}
	d := fresh(t, 4)
	ok(t, d.Append("a", ""), d.Append(Temp, "left"), Scavenge(d))
	d.Crash()
	holds(t, "the folder is settled", d, "a", "")
	ok(t, d.Append("b", ""), Scavenge(d))
	d.Crash()
	holds(t, "there was none", d, "a", "")
	d.Arm(0)
	is(t, "dies", d.Settle(), api.ErrDead)
	is(t, "dead", Scavenge(d), api.ErrDead)
}

// someKeeps: numbers by dice, or none.
func someKeeps(r *rand.Rand) []int {
	var out []int
	for range r.IntN(8) {
		out = append(out, r.IntN(80)-10)
	}
	return out
}

// scene: what is on a disk when a file a with the bytes "published" comes to it.
type scene struct {
	what string
	set  func(*testing.T, *disk.Disk)
	old  []string // the file a ahead of it, if there is one
}

func scenes() []scene {
	left := strings.Repeat("left", 5)
	return []scene{
		{"nothing", func(*testing.T, *disk.Disk) {}, nil},
		{"another file", func(t *testing.T, d *disk.Disk) { lay(t, d, "a", "old") }, []string{"old"}},
		{"an empty file", func(t *testing.T, d *disk.Disk) { lay(t, d, "a", "") }, []string{""}},
		{"a part of it", func(t *testing.T, d *disk.Disk) { lay(t, d, "a", "publ") }, []string{"publ"}},
		{"itself", func(t *testing.T, d *disk.Disk) { lay(t, d, "a", "published") }, []string{"published"}},
		{"a tmp", func(t *testing.T, d *disk.Disk) { lay(t, d, Temp, left) }, nil},
		{"a tmp that isn't safe", func(t *testing.T, d *disk.Disk) { ok(t, d.Append(Temp, left)) }, nil},
		{"a tmp that was removed", func(t *testing.T, d *disk.Disk) {
			lay(t, d, Temp, left)
			ok(t, d.Remove(Temp))
		}, nil},
		{"another file and a tmp", func(t *testing.T, d *disk.Disk) {
			lay(t, d, "a", "old")
			lay(t, d, Temp, left)
		}, []string{"old"}},
		{"itself and a tmp", func(t *testing.T, d *disk.Disk) {
			lay(t, d, "a", "published")
			lay(t, d, Temp, "publ")
		}, []string{"published"}},
	}
}

// found: is the file there as a whole? If not, what was there is as it was; whatever else there is, is a tmp.
func found(t *testing.T, what string, d *disk.Disk, c scene) bool {
	t.Helper()
	if s, e := d.Read("b"); e != api.OK || s != "beside" {
		t.Fatalf("%s: beside it: %q, %d", what, s, e)
	}
	names, _ := d.List()
	for _, name := range names {
		if name != "a" && name != "b" && name != Temp {
			t.Fatalf("%s: %q", what, names)
		}
	}
	s, e := d.Read("a")
	switch {
	case e == api.OK && s == "published":
		return true
	case e == api.ErrAbsent && c.old == nil, e == api.OK && slices.Equal(c.old, []string{s}):
		return false
	}
	t.Fatalf("%s: %q, %d", what, s, e)
	return false
}

// dies: Publish on a disk that dies behind n calls, and crashes; is it answered by OK?
func dies(t *testing.T, r *rand.Rand, c scene, n int) bool {
	t.Helper()
	d := fresh(t, 100)
	lay(t, d, "b", "beside")
	c.set(t, d)
	d.Arm(n)
	e := Publish(d, "a", "published")
	keeps := someKeeps(r)
	what := fmt.Sprint(c.what, ", dying behind ", n, ", keeps ", keeps)
	if e != api.OK && e != api.ErrDead {
		t.Fatalf("%s: %d", what, e)
	}
	d.Crash(keeps...)
	there := found(t, what, d, c)
	if e == api.OK && !there {
		t.Fatalf("%s: answered by OK, and lost", what)
	}
	d.Crash(someKeeps(r)...)
	if found(t, what, d, c) != there {
		t.Fatalf("%s: not safe", what)
	}
	ok(t, Scavenge(d), Publish(d, "a", "published"))
	d.Crash()
	holds(t, what, d, "a", "published", "b", "beside")
	return e == api.OK
}

// P16.4, P5: wherever the disk dies, and whatever a crash keeps, the file is there as a whole, or what was there is as it was.
func TestCrashes(t *testing.T) {
	r := dice()
	for _, c := range scenes() {
		n := 0
		for ended := false; !ended; n++ {
			for range 400 {
				ended = dies(t, r, c, n)
			}
			if n > 50 {
				t.Fatalf("%s: no end", c.what)
			}
		}
		if n < 2 {
			t.Errorf("%s: safe behind no call at all", c.what)
		}
	}
}

// P16.4: a file that isn't called tmp is no matter of Scavenge, wherever it dies.
func TestScavengeCrashes(t *testing.T) {
	r := dice()
	for n := range 5 {
		for range 100 {
			d := fresh(t, 100)
			lay(t, d, "a", "x")
			lay(t, d, Temp, "left")
			d.Arm(n)
			e := Scavenge(d)
			d.Crash(someKeeps(r)...)
			if s, _ := d.Read(Temp); e == api.OK || s == "" {
				holds(t, "gone", d, "a", "x")
			} else {
				holds(t, "there", d, "a", "x", Temp, "left")
			}
		}
	}
}

// P16.2, P16.4, P16.5: packs by dice on disks that fill, die and are spoilt: what was published is loaded, chunk by chunk.
func TestDice(t *testing.T) {
	r := dice()
	seen := map[api.Errno]int{}
	for range 300 {
		d := fresh(t, []int{600, 2000, 100000}[r.IntN(3)])
		want := map[string]string{}
		for range r.IntN(12) {
			name, s := built(t, r.IntN(10), "x"+randomText(r, r.IntN(300), 256), "y"+randomText(r, r.IntN(300), 2))
			if r.IntN(2) == 0 {
				d.Arm(r.IntN(8))
			}
			e := Publish(d, name, s)
			seen[e]++
			if e == api.ErrDead {
				d.Crash(someKeeps(r)...)
				if got, f := Load(d, Front, name); f == api.OK && got == s {
					e = api.OK
				} else if f != api.ErrAbsent {
					t.Fatalf("Load: %d bytes, %d", len(got), f)
				}
			} else if e != api.OK && e != api.ErrSpace {
				t.Fatalf("Publish: %d", e)
			}
			if e == api.OK {
				want[name] = s
			}
			d.Arm(-1)
		}
		checkAll(t, d, want)
		d.Crash(someKeeps(r)...)
		checkAll(t, d, want)
	}
	for _, e := range []api.Errno{api.OK, api.ErrDead, api.ErrSpace} {
		if seen[e] < 100 {
			t.Errorf("answer %d: %d, too few to tell", e, seen[e])
		}
	}
}

// checkAll: a disk has just these packs.
func checkAll(t *testing.T, d *disk.Disk, want map[string]string) {
	t.Helper()
	names, e := Names(d, Front)
	if e != api.OK || len(names) != len(want) || !slices.IsSorted(names) {
		t.Fatalf("Names: %d, %d, not %d", len(names), e, len(want))
	}
	for _, name := range names {
		s, e := Load(d, Front, name)
		if e != api.OK || s != want[name] {
			t.Fatalf("Load: %d", e)
		}
		heads, e := Heads(s)
		if e != api.OK || len(heads) != 2 {
			t.Fatalf("Heads: %d", e)
		}
		for _, h := range heads {
			if c, e := Chunk(s, h); e != api.OK || sha(c) != h.Name {
				t.Fatalf("Chunk: %d", e)
			}
		}
	}
}

// K3: answers are new memory.
func TestNewMemory(t *testing.T) {
	name, s := built(t, 6, "a", "b", "c")
	one, _ := Heads(s)
	two, _ := Heads(s)
	clear(one)
	if three, _ := Heads(s); !slices.Equal(two, three) || len(two) != 3 {
		t.Error("Heads")
	}
	d := fresh(t, 10000)
	ok(t, Publish(d, name, s), Publish(d, "p"+sha("x"), "x"))
	first, _ := Names(d, Front)
	second, _ := Names(d, Front)
	_ = append(first, "behind")
	clear(first)
	if third, _ := Names(d, Front); !slices.Equal(second, third) || len(second) != 2 {
		t.Error("Names")
	}
	text, _ := Load(d, Front, name)
	ok(t, d.Spoil(name, 0, 'x'))
	if text != s {
		t.Error("Load")
	}
}

// K4: the same calls have the same answers.
func TestSame(t *testing.T) {
	name, s := built(t, 9, numbered(100, 50)...)
	for range 10 {
		if again, same := built(t, 9, numbered(100, 50)...); again != name || same != s {
			t.Fatalf("%s, not %s", again, name)
		}
	}
}
