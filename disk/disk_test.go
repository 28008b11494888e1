package disk

import (
	"fmt"
	"maps"
	"math"
	"math/rand/v2"
	"slices"
	"strings"
	"testing"

	"cellarer/api"
)

// dice: the same numbers in every run.
func dice() *rand.Rand {
	return rand.New(rand.NewPCG(21, 22))
}

// fresh: an empty disk of that room.
func fresh(t *testing.T, room int) *Disk {
	t.Helper()
	d, e := New(room)
	if e != api.OK || d == nil {
		t.Fatalf("New(%d): %d", room, e)
	}
	return d
}

// roomy: an empty disk with room.
func roomy(t *testing.T) *Disk {
	t.Helper()
	return fresh(t, 1000)
}

// ok: calls that are to be answered by OK.
func ok(t *testing.T, all ...api.Errno) {
	t.Helper()
	for i, e := range all {
		if e != api.OK {
			t.Errorf("call %d: %d", i, e)
		}
	}
}

// is: a call that is to be answered by want.
func is(t *testing.T, what string, got, want api.Errno) {
	t.Helper()
	if got != want {
		t.Errorf("%s: %d, not %d", what, got, want)
	}
}

// told: what stands on a living disk, as a text of names and bytes by rising names.
func told(t *testing.T, d *Disk) string {
	t.Helper()
	l, e := d.List()
	is(t, "List", e, api.OK)
	var out []string
	used := 0
	for _, name := range l {
		s, e := d.Read(name)
		is(t, "Read", e, api.OK)
		out = append(out, name+"="+s)
		used += len(s)
	}
	if d.Used() != used {
		t.Errorf("Used: %d, not %d", d.Used(), used)
	}
	return strings.Join(out, " ")
}

func holds(t *testing.T, what string, d *Disk, want string) {
	t.Helper()
	if got := told(t, d); got != want {
		t.Errorf("%s: %q, not %q", what, got, want)
	}
}

// safely: a file whose bytes are safe; the folder isn't.
func safely(t *testing.T, d *Disk, name, data string) {
	t.Helper()
	ok(t, d.Append(name, data), d.Sync(name))
}

// P14.1: the document's examples.
func TestExamples(t *testing.T) {
	d := roomy(t)
	ok(t, d.Append("a", "xy"))
	d.Crash()
	holds(t, "nothing safe", d, "")
	ok(t, d.Append("a", "xy"), d.Settle())
	d.Crash()
	holds(t, "the name is safe", d, "a=")
	for keep, want := range map[int]string{1: "a=xyz", 2: "a=xy"} {
		d = roomy(t)
		ok(t, d.Append("a", "xy"), d.Sync("a"), d.Settle(), d.Append("a", "z"))
		d.Crash(keep)
		holds(t, "a byte more", d, want)
	}
	for keep, want := range map[int]string{0: "a=x", 1: "b=x"} {
		d = roomy(t)
		ok(t, d.Append("a", "x"), d.Sync("a"), d.Settle(), d.Rename("a", "b"))
		d.Crash(keep)
		holds(t, "renamed", d, want)
	}
	d.Arm(0)
	is(t, "armed", d.Append("a", ""), api.ErrDead)
}

// P14.1: rooms at their bounds.
func TestNew(t *testing.T) {
	for _, room := range []int{math.MinInt, -1, 1<<30 + 1, 1 << 40, math.MaxInt} {
		if d, e := New(room); d != nil || e != api.ErrArg {
			t.Errorf("New(%d): %d", room, e)
		}
	}
	for _, room := range []int{0, 1, 5, 1<<30 - 1, 1 << 30} {
		d := fresh(t, room)
		holds(t, "empty", d, "")
		if _, e := d.Read("a"); e != api.ErrAbsent {
			t.Errorf("Read: %d", e)
		}
		d.Crash(1, 2, 3)
		holds(t, "behind a crash", d, "")
	}
}

// P14.1: each byte, and how many.
func TestName(t *testing.T) {
	for b := range 256 {
		want := b > 32 && b < 127 && b != '/'
		c := string([]byte{byte(b)})
		for _, s := range []string{c, "a" + c, c + "a", "a" + c + "a"} {
			if Name(s) != want {
				t.Errorf("Name(%q): %t", s, !want)
			}
		}
	}
	for n := range 200 {
		if Name(strings.Repeat("n", n)) != (n >= 1 && n <= 80) {
			t.Errorf("of %d bytes", n)
		}
	}
	for _, s := range []string{".", "..", "...", "~", "!"} {
		if !Name(s) {
			t.Errorf("Name(%q)", s)
		}
	}
	if Name("é") || Name(" ") || MaxName != 80 {
		t.Error("Name, MaxName")
	}
}

// P14.1: bytes stand behind bytes; a file is made also for none.
func TestAppend(t *testing.T) {
	d := roomy(t)
	ok(t, d.Append("b", "x"), d.Append("a", ""), d.Append("b", "yz"), d.Append("b", ""))
	holds(t, "two files", d, "a= b=xyz")
	all := ""
	for b := range 256 {
		all += string([]byte{byte(b)})
	}
	ok(t, d.Append("c", all), d.Append("c", all))
	if s, e := d.Read("c"); s != all+all || e != api.OK {
		t.Errorf("all bytes: %q, %d", s, e)
	}
}

// P14.1: what is no name; nothing is done then.
func TestAppendPath(t *testing.T) {
	d := fresh(t, 3)
	ok(t, d.Append("a", "x"))
	for _, name := range []string{"", " ", "a/b", "/", "é", "\x00", "\x7f", strings.Repeat("n", 81)} {
		is(t, "Append", d.Append(name, "y"), api.ErrPath)
		is(t, "Append of none", d.Append(name, ""), api.ErrPath)
		// No name goes ahead of no room.
		is(t, "Append of too much", d.Append(name, "1234"), api.ErrPath)
	}
	holds(t, "as before", d, "a=x")
	long := strings.Repeat("n", 80)
	ok(t, d.Append(long, "y"))
	holds(t, "the longest name", d, "a=x "+long+"=y")
}

// P14.1: room to the very byte, of all files in the folder.
func TestAppendSpace(t *testing.T) {
	d := fresh(t, 5)
	is(t, "six", d.Append("a", "123456"), api.ErrSpace)
	holds(t, "not made", d, "")
	ok(t, d.Append("a", "123"), d.Append("b", "4"))
	is(t, "two more", d.Append("a", "56"), api.ErrSpace)
	is(t, "two more", d.Append("b", "56"), api.ErrSpace)
	is(t, "two more", d.Append("c", "56"), api.ErrSpace)
	holds(t, "as before", d, "a=123 b=4")
	ok(t, d.Append("b", "5"), d.Append("c", ""))
	is(t, "full", d.Append("a", "6"), api.ErrSpace)
	is(t, "full", d.Append("d", "6"), api.ErrSpace)
	ok(t, d.Rename("b", "a"))
	is(t, "four", d.Append("c", "6789"), api.ErrSpace)
	ok(t, d.Append("c", "678"), d.Remove("c"), d.Append("a", "678"))
	holds(t, "room was made", d, "a=45678")
	ok(t, d.Sync("a"), d.Settle(), d.Spoil("a", 0, 'x'))
	is(t, "spoilt", d.Append("b", "1"), api.ErrSpace)
	n := fresh(t, 0)
	ok(t, n.Append("a", ""), n.Sync("a"), n.Rename("a", "b"), n.Settle(), n.Append("a", ""))
	is(t, "no room at all", n.Append("a", "1"), api.ErrSpace)
	holds(t, "no room at all", n, "a= b=")
}

// P14.1: the bound is of what stands in the folder, so a crash may leave more than there is room for.
func TestAppendBeyond(t *testing.T) {
	d := fresh(t, 4)
	safely(t, d, "a", "1234")
	ok(t, d.Settle(), d.Remove("a"))
	safely(t, d, "b", "5678")
	d.Crash(0, 1)
	holds(t, "both", d, "a=1234 b=5678")
	is(t, "none more", d.Append("a", ""), api.ErrSpace)
	is(t, "none more", d.Append("c", ""), api.ErrSpace)
	ok(t, d.Remove("b"), d.Append("c", ""))
	is(t, "full", d.Append("c", "x"), api.ErrSpace)
}

// P14.1: errors of the other calls, in their order; nothing is done then.
func TestAbsent(t *testing.T) {
	d := roomy(t)
	safely(t, d, "a", "x")
	ok(t, d.Settle())
	for _, name := range []string{"b", "A", "", "a/", " ", strings.Repeat("n", 81)} {
		is(t, "Sync", d.Sync(name), api.ErrAbsent)
		is(t, "Remove", d.Remove(name), api.ErrAbsent)
		is(t, "Rename", d.Rename(name, "c"), api.ErrAbsent)
		is(t, "Rename to itself", d.Rename(name, name), api.ErrAbsent)
		is(t, "Rename to no name", d.Rename(name, "a/b"), api.ErrAbsent)
		is(t, "Spoil", d.Spoil(name, 0, 'y'), api.ErrAbsent)
		is(t, "Spoil at no place", d.Spoil(name, -1, 'y'), api.ErrAbsent)
		if s, e := d.Read(name); s != "" || e != api.ErrAbsent {
			t.Errorf("Read(%q): %q, %d", name, s, e)
		}
	}
	for _, name := range []string{"", " ", "a/b", "é", strings.Repeat("n", 81)} {
		is(t, "Rename", d.Rename("a", name), api.ErrPath)
	}
	holds(t, "as before", d, "a=x")
	// None of these was a step: number 0 is that of the first file's bytes.
	ok(t, d.Append("a", "yz"))
	d.Crash(2, 0)
	holds(t, "no steps", d, "a=xyz")
}

// P14.1: Rename, Remove while the disk lives.
func TestRenameRemove(t *testing.T) {
	d := roomy(t)
	ok(t, d.Append("a", "1"), d.Append("b", "22"), d.Append("c", "333"))
	ok(t, d.Rename("a", "z"))
	holds(t, "a new name", d, "b=22 c=333 z=1")
	ok(t, d.Rename("z", "b"))
	holds(t, "another file's name", d, "b=1 c=333")
	ok(t, d.Rename("b", "b"))
	holds(t, "its own name", d, "b=1 c=333")
	ok(t, d.Append("b", "4"), d.Append("z", "5"))
	holds(t, "its bytes come along", d, "b=14 c=333 z=5")
	ok(t, d.Remove("c"))
	holds(t, "removed", d, "b=14 z=5")
	is(t, "again", d.Remove("c"), api.ErrAbsent)
	ok(t, d.Append("c", "6"))
	holds(t, "made anew", d, "b=14 c=6 z=5")
	long := strings.Repeat("n", 80)
	ok(t, d.Rename("b", long), d.Remove("c"), d.Remove("z"), d.Remove(long))
	holds(t, "all removed", d, "")
}

// P14.1: by their bytes.
func TestList(t *testing.T) {
	d := roomy(t)
	for _, name := range []string{"b", "a1", "B", "a", "~", "a-", "aa", "!"} {
		ok(t, d.Append(name, name))
	}
	l, e := d.List()
	if want := []string{"!", "B", "a", "a-", "a1", "aa", "b", "~"}; e != api.OK || !slices.Equal(l, want) {
		t.Errorf("%q, %d", l, e)
	}
}

// counted: the calls that bring a disk nearer to its death, with whatever answer.
func counted() map[string]func(*Disk) api.Errno {
	return map[string]func(*Disk) api.Errno{
		"Append":            func(d *Disk) api.Errno { return d.Append("a", "x") },
		"Append of none":    func(d *Disk) api.Errno { return d.Append("a", "") },
		"Append, no name":   func(d *Disk) api.Errno { return d.Append("", "x") },
		"Append, no room":   func(d *Disk) api.Errno { return d.Append("a", strings.Repeat("x", 2000)) },
		"Sync":              func(d *Disk) api.Errno { return d.Sync("a") },
		"Sync of none":      func(d *Disk) api.Errno { return d.Sync("q") },
		"Rename":            func(d *Disk) api.Errno { return d.Rename("a", "a") },
		"Rename of none":    func(d *Disk) api.Errno { return d.Rename("q", "a") },
		"Rename to no name": func(d *Disk) api.Errno { return d.Rename("a", "") },
		"Remove":            func(d *Disk) api.Errno { return d.Remove("b") },
		"Remove of none":    func(d *Disk) api.Errno { return d.Remove("q") },
		"Settle":            func(d *Disk) api.Errno { return d.Settle() },
	}
}

// uncounted: calls that don't.
func uncounted(d *Disk) {
	d.Read("a")
	d.Read("q")
	d.List()
	d.Used()
	d.Spoil("a", 0, '1')
	d.Spoil("q", 0, '1')
}

// P14.1: a disk dies at its time, whatever the calls and their answers; then each is ErrDead and does nothing.
func TestArm(t *testing.T) {
	for first, call := range counted() {
		for n := range 4 {
			d := roomy(t)
			ok(t, d.Append("a", "1"), d.Append("b", "2"))
			d.Arm(n)
			for range n {
				uncounted(d)
				if e := call(d); e == api.ErrDead {
					t.Errorf("%s: dead ahead of its time", first)
				}
			}
			uncounted(d)
			before := d.Used()
			for range 2 {
				for name, call := range counted() {
					is(t, first+", then "+name, call(d), api.ErrDead)
				}
				if s, e := d.Read("a"); s != "" || e != api.ErrDead {
					t.Errorf("Read: %q, %d", s, e)
				}
				if s, e := d.Read("q"); s != "" || e != api.ErrDead {
					t.Errorf("Read of none: %q, %d", s, e)
				}
				if l, e := d.List(); len(l) != 0 || e != api.ErrDead {
					t.Errorf("List: %q, %d", l, e)
				}
			}
			if d.Used() != before {
				t.Errorf("%s: %d bytes, not %d", first, d.Used(), before)
			}
		}
	}
}

// P14.1: of each call, that it dies itself and does nothing: what a crash leaves is as if it had never been.
func TestArmDoesNothing(t *testing.T) {
	for name, call := range counted() {
		for _, keeps := range [][]int{nil, {1}, {1, 1, 0}, {1, 0, 1}, {1, 2, 1, 1}, {0, 5, 3}, {3, 3, 5, 3}} {
			var left []string
			for _, dying := range []bool{true, false} {
				d := roomy(t)
				safely(t, d, "a", "1")
				ok(t, d.Append("b", "2"), d.Settle(), d.Append("a", "3"), d.Append("c", "4"))
				if dying {
					d.Arm(0)
					is(t, name, call(d), api.ErrDead)
				}
				d.Crash(keeps...)
				left = append(left, told(t, d))
			}
			if left[0] != left[1] {
				t.Errorf("%s, %v: %q, not %q", name, keeps, left[0], left[1])
			}
		}
	}
}

// P14.1: arming anew, and not at all.
func TestArmAnew(t *testing.T) {
	d := roomy(t)
	for _, n := range []int{-1, math.MinInt, math.MaxInt, 1 << 40} {
		d.Arm(0)
		d.Arm(n)
		for range 20 {
			ok(t, d.Append("a", "x"), d.Settle())
		}
	}
	d.Arm(5)
	ok(t, d.Settle(), d.Settle())
	d.Arm(2)
	ok(t, d.Settle(), d.Settle())
	is(t, "counted anew", d.Settle(), api.ErrDead)
	for _, n := range []int{-1, 0, 9, math.MaxInt} {
		d.Arm(n)
		is(t, "a dead disk stays dead", d.Settle(), api.ErrDead)
		if _, e := d.List(); e != api.ErrDead {
			t.Errorf("List: %d", e)
		}
	}
	d.Arm(0)
	d.Crash()
	for range 20 {
		ok(t, d.Append("b", "x"), d.Sync("b"))
	}
	d.Arm(1)
	d.Crash()
	ok(t, d.Settle(), d.Settle(), d.Settle())
}

// P14.1: Used and Spoil of a dead disk.
func TestDead(t *testing.T) {
	d := roomy(t)
	safely(t, d, "a", "xyz")
	ok(t, d.Append("b", "1"), d.Settle())
	d.Arm(0)
	is(t, "dies", d.Append("a", "more"), api.ErrDead)
	if d.Used() != 4 {
		t.Errorf("Used: %d", d.Used())
	}
	is(t, "Spoil of none", d.Spoil("q", 0, 0), api.ErrAbsent)
	is(t, "Spoil at no place", d.Spoil("a", 3, 0), api.ErrArg)
	ok(t, d.Spoil("a", 1, 'Y'))
	d.Crash()
	holds(t, "behind a crash", d, "a=xYz b=")
}

// P14.1: places at their bounds, and each byte.
func TestSpoil(t *testing.T) {
	d := roomy(t)
	ok(t, d.Append("a", "xyz"), d.Append("b", ""))
	for _, at := range []int{math.MinInt, -1, 3, 4, math.MaxInt} {
		is(t, fmt.Sprint("at ", at), d.Spoil("a", at, 'q'), api.ErrArg)
	}
	is(t, "an empty file", d.Spoil("b", 0, 'q'), api.ErrArg)
	holds(t, "as before", d, "a=xyz b=")
	ok(t, d.Spoil("a", 0, 'X'), d.Spoil("a", 2, 'Z'))
	holds(t, "both ends", d, "a=XyZ b=")
	for b := range 256 {
		ok(t, d.Spoil("a", 1, byte(b)))
		if s, _ := d.Read("a"); s != "X"+string([]byte{byte(b)})+"Z" {
			t.Errorf("%d: %q", b, s)
		}
	}
}

// P14.1: a spoilt byte is safe just if it was.
func TestSpoilSafe(t *testing.T) {
	for keep, want := range []string{"b=Xy", "b=XyZ", "b=XyZw"} {
		d := roomy(t)
		safely(t, d, "a", "xy")
		ok(t, d.Settle(), d.Append("a", "zw"), d.Spoil("a", 0, 'X'), d.Spoil("a", 2, 'Z'), d.Rename("a", "b"))
		d.Crash(1, keep)
		holds(t, fmt.Sprint(keep, " kept"), d, want)
	}
	// A file that has another name when it is spoilt is the same file under its safe name.
	d := roomy(t)
	safely(t, d, "a", "xy")
	ok(t, d.Settle(), d.Rename("a", "b"), d.Spoil("b", 1, 'Y'))
	d.Crash()
	holds(t, "under its other name", d, "a=xY")
}

// P14.1: which of a file's bytes are left: of three that aren't safe, by the remainder by four, which isn't below 0.
func TestCrashBytes(t *testing.T) {
	for _, c := range []struct {
		keep int
		want string
	}{
		{0, "a=12"}, {1, "a=123"}, {2, "a=1234"}, {3, "a=12345"}, {4, "a=12"}, {5, "a=123"}, {7, "a=12345"},
		{-1, "a=12345"}, {-2, "a=1234"}, {-3, "a=123"}, {-4, "a=12"}, {-5, "a=12345"},
		{math.MaxInt, "a=12345"}, {math.MinInt, "a=12"}, {math.MinInt + 1, "a=123"},
	} {
		d := roomy(t)
		safely(t, d, "a", "12")
		ok(t, d.Settle(), d.Append("a", "345"))
		d.Crash(c.keep)
		holds(t, fmt.Sprint("keep ", c.keep), d, c.want)
		// All that is left is safe.
		d.Crash()
		holds(t, fmt.Sprint("keep ", c.keep, ", again"), d, c.want)
		ok(t, d.Append("a", "6"))
		holds(t, "and more stands behind it", d, c.want+"6")
	}
	for _, keep := range []int{0, 1, -1, math.MinInt, math.MaxInt} {
		d := roomy(t)
		safely(t, d, "a", "12")
		ok(t, d.Settle())
		d.Crash(keep)
		holds(t, "all of it safe", d, "a=12")
	}
}

// P14.1: Sync makes bytes safe that stand by then; Settle makes none.
func TestSync(t *testing.T) {
	d := roomy(t)
	ok(t, d.Append("a", "1"), d.Settle(), d.Append("a", "2"), d.Sync("a"), d.Sync("a"), d.Append("a", "3"), d.Settle(), d.Append("b", "x"))
	d.Crash()
	holds(t, "two bytes", d, "a=12")
	ok(t, d.Append("a", "3"), d.Append("b", "y"), d.Sync("b"), d.Settle())
	d.Crash()
	holds(t, "of another file", d, "a=12 b=y")
	// A file's bytes are safe under whatever name.
	ok(t, d.Append("a", "3"), d.Rename("a", "c"), d.Sync("c"))
	d.Crash()
	holds(t, "synced by its other name", d, "a=123 b=y")
}

// P14.1: a step is kept just if its number is odd.
func TestCrashOdd(t *testing.T) {
	for _, keep := range []int{0, 1, 2, 3, -1, -2, -3, math.MinInt, math.MaxInt, math.MinInt + 1} {
		want := ""
		if keep%2 == 1 || keep%2 == -1 {
			want = "a=x"
		}
		d := roomy(t)
		safely(t, d, "a", "x")
		d.Crash(keep)
		holds(t, fmt.Sprint("keep ", keep), d, want)
	}
}

// crashed: what is left of what these calls did to files a (x, of one byte) and b (y), which are safe and settled.
func crashed(t *testing.T, calls func(d *Disk) []api.Errno, keeps ...int) string {
	t.Helper()
	d := roomy(t)
	safely(t, d, "a", "x")
	safely(t, d, "b", "y")
	ok(t, d.Settle())
	ok(t, calls(d)...)
	d.Crash(keeps...)
	left := told(t, d)
	// What is left is safe, and settled.
	d.Crash(1, 1, 1, 1, 1)
	holds(t, "again", d, left)
	d.Crash()
	holds(t, "once more", d, left)
	return left
}

// P14.1: the steps by themselves, and in each other's way: all of what may be kept. A bit of a place says whether the step is kept, the lowest that of the first.
func TestCrashSteps(t *testing.T) {
	for _, c := range []struct {
		what  string
		calls func(d *Disk) []api.Errno
		want  []string
	}{
		{"made", func(d *Disk) []api.Errno {
			return []api.Errno{d.Append("c", ""), d.Append("c", "z"), d.Sync("c")}
		}, []string{"a=x b=y", "a=x b=y c=z"}},
		{"removed", func(d *Disk) []api.Errno {
			return []api.Errno{d.Remove("a")}
		}, []string{"a=x b=y", "b=y"}},
		{"renamed", func(d *Disk) []api.Errno {
			return []api.Errno{d.Rename("a", "c")}
		}, []string{"a=x b=y", "b=y c=x"}},
		{"renamed to another's name", func(d *Disk) []api.Errno {
			return []api.Errno{d.Rename("a", "b")}
		}, []string{"a=x b=y", "b=x"}},
		{"renamed to itself, removed", func(d *Disk) []api.Errno {
			return []api.Errno{d.Rename("a", "a"), d.Remove("a")}
		}, []string{"a=x b=y", "a=x b=y", "b=y", "b=y"}},
		{"made, renamed", func(d *Disk) []api.Errno {
			return []api.Errno{d.Append("c", "z"), d.Sync("c"), d.Rename("c", "d")}
		}, []string{"a=x b=y", "a=x b=y c=z", "a=x b=y", "a=x b=y d=z"}},
		{"made, removed", func(d *Disk) []api.Errno {
			return []api.Errno{d.Append("c", "z"), d.Sync("c"), d.Remove("c")}
		}, []string{"a=x b=y", "a=x b=y c=z", "a=x b=y", "a=x b=y"}},
		// The made one's name is another file's where the removing isn't kept.
		{"removed, made", func(d *Disk) []api.Errno {
			return []api.Errno{d.Remove("a"), d.Append("a", "z"), d.Sync("a")}
		}, []string{"a=x b=y", "b=y", "a=x b=y", "a=z b=y"}},
		// The second file of this name isn't the one that was removed first.
		{"removed, made, removed", func(d *Disk) []api.Errno {
			return []api.Errno{d.Remove("a"), d.Append("a", "z"), d.Sync("a"), d.Remove("a")}
		}, []string{"a=x b=y", "b=y", "a=x b=y", "a=z b=y", "a=x b=y", "b=y", "a=x b=y", "b=y"}},
		{"renamed, made", func(d *Disk) []api.Errno {
			return []api.Errno{d.Rename("a", "c"), d.Append("a", "z"), d.Sync("a")}
		}, []string{"a=x b=y", "b=y c=x", "a=x b=y", "a=z b=y c=x"}},
		{"made, renamed to a safe name", func(d *Disk) []api.Errno {
			return []api.Errno{d.Append("t", "z"), d.Sync("t"), d.Rename("t", "a")}
		}, []string{"a=x b=y", "a=x b=y t=z", "a=x b=y", "a=z b=y"}},
		{"renamed onward", func(d *Disk) []api.Errno {
			return []api.Errno{d.Rename("a", "c"), d.Rename("c", "d")}
		}, []string{"a=x b=y", "b=y c=x", "a=x b=y", "b=y d=x"}},
		{"renamed there and back", func(d *Disk) []api.Errno {
			return []api.Errno{d.Rename("a", "c"), d.Rename("c", "a")}
		}, []string{"a=x b=y", "b=y c=x", "a=x b=y", "a=x b=y"}},
		{"one behind the other", func(d *Disk) []api.Errno {
			return []api.Errno{d.Rename("a", "c"), d.Rename("b", "a")}
		}, []string{"a=x b=y", "b=y c=x", "a=y", "a=y c=x"}},
		// The file b that is renamed last is a's where the first is kept, and else still b's own.
		{"renamed over, renamed", func(d *Disk) []api.Errno {
			return []api.Errno{d.Rename("a", "b"), d.Rename("b", "c")}
		}, []string{"a=x b=y", "b=x", "a=x b=y", "c=x"}},
		{"renamed over, removed", func(d *Disk) []api.Errno {
			return []api.Errno{d.Rename("a", "b"), d.Remove("b")}
		}, []string{"a=x b=y", "b=x", "a=x b=y", ""}},
	} {
		for bits, want := range c.want {
			// All bytes are safe, so that the files' numbers say nothing.
			var keeps []int
			for i := 0; 1<<i < len(c.want); i++ {
				keeps = append(keeps, bits>>i&1)
			}
			if got := crashed(t, c.calls, keeps...); got != want {
				t.Errorf("%s, %v: %q, not %q", c.what, keeps, got, want)
			}
		}
	}
}

// P14.1: the files' numbers stand behind those of all steps, by rising names of what is left.
func TestCrashNumbers(t *testing.T) {
	for _, c := range []struct {
		keeps []int
		want  string
	}{
		// Two steps: c is made, a is removed.
		{[]int{0, 0, 1, 2}, "a=a b=bb"},
		{[]int{1, 0, 1, 2, 3}, "a=a b=bb c=ccc"},
		{[]int{1, 1, 1, 2, 3}, "b=b c=cc"},
		{[]int{0, 1, 3, 1}, "b=bbb"},
		// Numbers behind the last one begin anew.
		{[]int{1}, "b=b c=c"},
		{[]int{3}, "b=bbb c=ccc"},
		{[]int{2}, "a=aa b=bb"},
		{[]int{1, 0}, "a=a b= c=c"},
		{[]int{0, 1}, "b="},
		{[]int{1, 2, 3}, "a=aaa b=b c=cc"},
		{[]int{3, 2, 1, 0}, "a=a b= c=ccc"},
		{nil, "a= b="},
		{[]int{0}, "a= b="},
	} {
		d := roomy(t)
		ok(t, d.Append("a", "aaa"), d.Append("b", "bbb"), d.Settle(), d.Append("c", "ccc"), d.Remove("a"))
		d.Crash(c.keeps...)
		holds(t, fmt.Sprint(c.keeps), d, c.want)
	}
}

// P14.1: Settle ends all steps.
func TestSettle(t *testing.T) {
	d := roomy(t)
	safely(t, d, "a", "x")
	safely(t, d, "b", "y")
	ok(t, d.Rename("a", "c"), d.Remove("b"), d.Settle())
	// With no steps number 0 is that of c's bytes.
	ok(t, d.Append("c", "12"))
	d.Crash(2, 0, 0, 0)
	holds(t, "settled", d, "c=x12")
	ok(t, d.Settle(), d.Settle())
	d.Crash(0)
	holds(t, "settled again", d, "c=x12")
	// Steps behind it are no part of it.
	ok(t, d.Remove("c"), d.Append("d", ""))
	d.Crash(0)
	holds(t, "not settled", d, "c=x12")
}

// model is the disk by the document's words: files by their numbers, steps as functions of a folder.
type model struct {
	room      int
	bytes     []string
	safeBytes []int
	now, safe map[string]int
	steps     []func(map[string]int)
	left      int
	dead      bool
}

func newModel(room int) *model {
	return &model{room: room, now: map[string]int{}, safe: map[string]int{}, left: -1}
}

// call: one of the five.
func (m *model) call(what int, name, other string) api.Errno {
	if m.left == 0 {
		m.dead = true
	}
	m.left--
	if m.dead {
		return api.ErrDead
	}
	n, there := m.now[name]
	switch what {
	case 0:
		if name == "" || name == "a/b" {
			return api.ErrPath
		}
		if m.used()+len(other) > m.room {
			return api.ErrSpace
		}
		if !there {
			n = len(m.bytes)
			m.bytes, m.safeBytes = append(m.bytes, ""), append(m.safeBytes, 0)
			m.now[name] = n
			m.steps = append(m.steps, func(f map[string]int) {
				if _, taken := f[name]; !taken {
					f[name] = n
				}
			})
		}
		m.bytes[n] += other
		return api.OK
	case 4:
		m.safe, m.steps = maps.Clone(m.now), nil
		return api.OK
	}
	if !there {
		return api.ErrAbsent
	}
	switch what {
	case 1:
		m.safeBytes[n] = len(m.bytes[n])
		return api.OK
	case 2:
		if other == "" || other == "a/b" {
			return api.ErrPath
		}
	}
	s := func(f map[string]int) {
		if has, there := f[name]; !there || has != n {
			return
		}
		delete(f, name)
		if what == 2 {
			f[other] = n
		}
	}
	s(m.now)
	m.steps = append(m.steps, s)
	return api.OK
}

func (m *model) used() int {
	n := 0
	for _, i := range m.now {
		n += len(m.bytes[i])
	}
	return n
}

func (m *model) spoil(name string, at int, c byte) api.Errno {
	n, there := m.now[name]
	if !there {
		return api.ErrAbsent
	}
	if at < 0 || at >= len(m.bytes[n]) {
		return api.ErrArg
	}
	m.bytes[n] = m.bytes[n][:at] + string([]byte{c}) + m.bytes[n][at+1:]
	return api.OK
}

// crash: each number of keeps is taken from as many of their repeats as there is need for.
func (m *model) crash(keeps []int) {
	need := len(m.steps) + len(m.steps) + len(m.safe)
	numbers := make([]int, need)
	for i := range numbers {
		if len(keeps) > 0 {
			numbers[i] = slices.Repeat(keeps, i/len(keeps)+1)[i]
		}
	}
	f := m.safe
	for i, s := range m.steps {
		if numbers[i]&1 == 1 {
			s(f)
		}
	}
	for j, name := range slices.Sorted(maps.Keys(f)) {
		n := f[name]
		by := len(m.bytes[n]) - m.safeBytes[n] + 1
		more := numbers[len(m.steps)+j] % by
		if more < 0 {
			more += by
		}
		m.bytes[n] = m.bytes[n][:m.safeBytes[n]+more]
		m.safeBytes[n] = len(m.bytes[n])
	}
	m.now, m.safe, m.steps = f, maps.Clone(f), nil
	m.left, m.dead = -1, false
}

// told: what stands on it, as of a disk.
func (m *model) told() string {
	var out []string
	for _, name := range slices.Sorted(maps.Keys(m.now)) {
		out = append(out, name+"="+m.bytes[m.now[name]])
	}
	return strings.Join(out, " ")
}

// aName: one of a few, now and then none.
func aName(r *rand.Rand) string {
	return []string{"a", "a", "b", "b", "c", "c", "d", "e", "a/b", ""}[r.IntN(10)]
}

// someKeeps: numbers of all signs, or none.
func someKeeps(r *rand.Rand) []int {
	var out []int
	for range r.IntN(9) {
		out = append(out, r.IntN(13)-6)
	}
	return out
}

// event: the same thing done to both.
func event(t *testing.T, r *rand.Rand, d *Disk, m *model, seen map[string]int) {
	name, other := aName(r), aName(r)
	var got, want api.Errno
	what := r.IntN(12)
	switch what {
	case 0, 1, 2:
		what = 0
		other = "0123456789"[:r.IntN(8)]
		got, want = d.Append(name, other), m.call(0, name, other)
	case 3, 4:
		got, want = d.Sync(name), m.call(1, name, "")
	case 5, 6:
		got, want = d.Rename(name, other), m.call(2, name, other)
	case 7:
		got, want = d.Remove(name), m.call(3, name, "")
	case 8:
		got, want = d.Settle(), m.call(4, "", "")
	case 9:
		at, c := r.IntN(12)-1, byte('A'+r.IntN(26))
		got, want = d.Spoil(name, at, c), m.spoil(name, at, c)
	case 10:
		if n := r.IntN(40) - 8; r.IntN(3) == 0 {
			d.Arm(n)
			m.left = n
		}
	case 11:
		if r.IntN(3) == 0 || m.dead {
			keeps := someKeeps(r)
			d.Crash(keeps...)
			m.crash(keeps)
		}
	}
	if got != want {
		t.Fatalf("event %d of %q, %q: %d, not %d", what, name, other, got, want)
	}
	seen[fmt.Sprint("event ", what, ", answer ", want)]++
}

// same: do both say the same?
func same(t *testing.T, d *Disk, m *model) {
	t.Helper()
	if d.Used() != m.used() {
		t.Fatalf("Used: %d, not %d", d.Used(), m.used())
	}
	if !m.dead {
		if got, want := told(t, d), m.told(); got != want {
			t.Fatalf("%q, not %q", got, want)
		}
		return
	}
	l, e := d.List()
	s, also := d.Read("a")
	if len(l) != 0 || e != api.ErrDead || s != "" || also != api.ErrDead {
		t.Fatalf("dead: %q, %d, %q, %d", l, e, s, also)
	}
}

// P14.1, P2: behind any calls, with dice.
func TestDice(t *testing.T) {
	r := dice()
	seen := map[string]int{}
	for range 3000 {
		room := []int{0, 9, 30, 1000}[r.IntN(4)]
		d, m := fresh(t, room), newModel(room)
		for range r.IntN(120) {
			event(t, r, d, m, seen)
			same(t, d, m)
		}
		keeps := someKeeps(r)
		d.Crash(keeps...)
		m.crash(keeps)
		same(t, d, m)
	}
	for _, answer := range []string{
		"event 0, answer 0", "event 0, answer 9", "event 0, answer 10", "event 0, answer 11",
		"event 3, answer 0", "event 3, answer 7", "event 3, answer 10",
		"event 5, answer 0", "event 5, answer 7", "event 5, answer 10", "event 5, answer 11",
		"event 7, answer 0", "event 7, answer 7", "event 7, answer 10",
		"event 8, answer 0", "event 8, answer 10", "event 9, answer 0", "event 9, answer 1", "event 9, answer 7",
	} {
		if seen[answer] < 100 {
			t.Errorf("%s: %d, too few to tell", answer, seen[answer])
		}
	}
}

// P14.2, P5: where no step is kept, what was safe is left as it was, byte for byte, wherever the disk dies.
func TestSafeIsLeft(t *testing.T) {
	r := dice()
	for range 3000 {
		d := roomy(t)
		want := map[string]string{}
		for _, name := range []string{"a", "b", "c"}[:r.IntN(4)] {
			want[name] = strings.Repeat(name, r.IntN(5))
			safely(t, d, name, want[name])
		}
		ok(t, d.Settle())
		d.Arm(r.IntN(12))
		for range 12 {
			switch name, other := aName(r), aName(r); r.IntN(4) {
			case 0:
				d.Append(name, "more")
			case 1:
				d.Rename(name, other)
			case 2:
				d.Remove(name)
			case 3:
				// Bytes that are safe more than before are left as well, so they aren't asked for here.
				d.Read(name)
			}
		}
		// The even number keeps no step; of the files' bytes that are no more safe it may keep some.
		d.Crash(2 * r.IntN(5))
		l, e := d.List()
		if e != api.OK || !slices.Equal(l, slices.Sorted(maps.Keys(want))) {
			t.Fatalf("%q, %d, not %q", l, e, want)
		}
		for name, safe := range want {
			if s, _ := d.Read(name); !strings.HasPrefix(s, safe) || strings.Trim(s[len(safe):], "more") != "" {
				t.Fatalf("%s: %q, not %q", name, s, safe)
			}
		}
	}
}

// P14.2: a kept step takes away just what it names.
func TestSafeTakenAway(t *testing.T) {
	for _, keeps := range [][]int{{1, 0}, {0, 1}, {1, 1}, {0, 0}} {
		d := roomy(t)
		for _, name := range []string{"a", "b", "c"} {
			safely(t, d, name, name+name)
		}
		ok(t, d.Settle(), d.Remove("a"), d.Rename("b", "d"))
		d.Crash(keeps...)
		want := []string{"a=aa", "b=bb", "c=cc"}
		if keeps[1] == 1 {
			want = []string{"a=aa", "c=cc", "d=bb"}
		}
		if keeps[0] == 1 {
			want = want[1:]
		}
		holds(t, fmt.Sprint(keeps), d, strings.Join(want, " "))
	}
}

// P14.3, K3: answers are new memory; what is handed in isn't changed.
func TestNewMemory(t *testing.T) {
	d := roomy(t)
	ok(t, d.Append("a", "xyz"), d.Append("b", "1"))
	s, _ := d.Read("a")
	again, _ := d.Read("a")
	ok(t, d.Spoil("a", 0, 'Q'), d.Append("a", "more"))
	d.Crash(1, 1, 1)
	ok(t, d.Append("a", "yet more"))
	if s != "xyz" || again != "xyz" {
		t.Errorf("what was read has changed: %q, %q", s, again)
	}
	one, _ := d.List()
	two, _ := d.List()
	_ = append(one, "behind")
	clear(one)
	if three, _ := d.List(); !slices.Equal(two, []string{"a", "b"}) || !slices.Equal(three, two) {
		t.Errorf("List: %q, %q", two, three)
	}
	room := []int{3, -1, 5, 77, 78}
	d.Crash(room[:3]...)
	if !slices.Equal(room, []int{3, -1, 5, 77, 78}) {
		t.Errorf("keeps: %v", room)
	}
}

// P14.3: disks share nothing.
func TestApart(t *testing.T) {
	a, b := roomy(t), roomy(t)
	ok(t, a.Append("x", "1"), b.Append("x", "2"), b.Settle())
	a.Arm(0)
	is(t, "one", a.Settle(), api.ErrDead)
	ok(t, b.Append("x", "3"))
	a.Crash()
	holds(t, "one", a, "")
	holds(t, "the other", b, "x=23")
}

// K4: the same calls have the same answers.
func TestSame(t *testing.T) {
	run := func() string {
		d := roomy(t)
		for i := range 40 {
			ok(t, d.Append(fmt.Sprint("f", i), strings.Repeat("x", i)))
		}
		d.Crash(1, 5, 3, 8, 13, 21, 7)
		return told(t, d)
	}
	first := run()
	for range 20 {
		if again := run(); again != first {
			t.Fatalf("%q, not %q", again, first)
		}
	}
}
