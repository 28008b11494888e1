package wal

import (
	"encoding/binary"
	"fmt"
	"hash/crc32"
	"math/rand/v2"
	"slices"
	"strings"
	"testing"

	"cellarer/api"
	"cellarer/disk"
)

// dice: the same numbers in every run.
func dice() *rand.Rand {
	return rand.New(rand.NewPCG(24, 15))
}

// randomText: n bytes, each one of the first few.
func randomText(r *rand.Rand, n, few int) string {
	out := make([]byte, n)
	for i := range out {
		out[i] = byte(r.IntN(few))
	}
	return string(out)
}

// framed: frames one behind the other, by the library's numbers and sums.
func framed(records ...string) string {
	var out []byte
	for _, s := range records {
		out = binary.LittleEndian.AppendUint32(out, uint32(len(s)))
		out = append(out, s...)
		out = binary.LittleEndian.AppendUint32(out, crc32.ChecksumIEEE([]byte(s)))
	}
	return string(out)
}

// parsed: Parse by the document's words: the most records whose frames are a beginning of the text.
func parsed(s string) ([]string, int) {
	var out []string
	for len(out) < 200 {
		rest := s[len(framed(out...)):]
		if len(rest) < 8 {
			break
		}
		n := int(rest[0]) | int(rest[1])<<8 | int(rest[2])<<16 | int(rest[3])<<24
		if n > 5000 || n > len(rest)-8 || !strings.HasPrefix(rest, framed(rest[4:4+n])) {
			break
		}
		out = append(out, rest[4:4+n])
	}
	return out, len(framed(out...))
}

// fresh: an empty disk of that room.
func fresh(t *testing.T, room int) *disk.Disk {
	t.Helper()
	d, e := disk.New(room)
	if e != api.OK {
		t.Fatalf("disk: %d", e)
	}
	return d
}

// ok: calls that are to be answered by OK.
func ok(t *testing.T, all ...api.Errno) {
	t.Helper()
	for i, e := range all {
		if e != api.OK {
			t.Fatalf("call %d: %d", i, e)
		}
	}
}

// is: a call that is to be answered by want.
func is(t *testing.T, what string, got, want api.Errno) {
	t.Helper()
	if got != want {
		t.Errorf("%s: %d, not %d", what, got, want)
	}
}

// lay: a file with these bytes, safely.
func lay(t *testing.T, d *disk.Disk, name, data string) {
	t.Helper()
	ok(t, d.Append(name, data), d.Sync(name), d.Settle())
}

func opened(t *testing.T, d *disk.Disk) *Log {
	t.Helper()
	l, e := Open(d)
	if e != api.OK || l == nil {
		t.Fatalf("Open: %d", e)
	}
	return l
}

// logged: a log with these records on a disk of that room.
func logged(t *testing.T, room int, records ...string) (*disk.Disk, *Log) {
	t.Helper()
	d := fresh(t, room)
	ok(t, Format(d))
	l := opened(t, d)
	for _, s := range records {
		ok(t, l.Add(s))
	}
	return d, l
}

// says: what a log answers of itself.
func says(t *testing.T, what string, l *Log, torn bool, records ...string) {
	t.Helper()
	if got := l.Records(); !slices.Equal(got, records) || l.Torn() != torn {
		t.Errorf("%s: %d records, torn %t, not %d, %t", what, len(got), l.Torn(), len(records), torn)
	}
}

// holds: a file's bytes.
func holds(t *testing.T, what string, d *disk.Disk, name, want string) {
	t.Helper()
	if s, e := d.Read(name); e != api.OK || s != want {
		t.Errorf("%s: %s has %d bytes, %d, not %d", what, name, len(s), e, len(want))
	}
}

// alone: these are all files of the disk.
func alone(t *testing.T, what string, d *disk.Disk, names ...string) {
	t.Helper()
	if l, e := d.List(); e != api.OK || !slices.Equal(l, names) {
		t.Errorf("%s: %q, %d, not %q", what, l, e, names)
	}
}

// P15.1: the names and bounds are the document's.
func TestBounds(t *testing.T) {
	if Name != "log" || Temp != "log.new" || MaxRecord != 5000 || MaxRecords != 200 {
		t.Error(Name, Temp, MaxRecord, MaxRecords)
	}
}

// P15.1: the document's example, and texts of any length.
func TestFrame(t *testing.T) {
	if s := Frame("a"); s != "\x01\x00\x00\x00\x61\x43\xbe\xb7\xe8" {
		t.Errorf("%x", s)
	}
	r := dice()
	for _, n := range []int{0, 1, 2, 3, 4, 8, 255, 256, 257, 4999, 5000, 5001, 65535, 65536, 70000, 1 << 24} {
		for _, few := range []int{1, 256} {
			if s := randomText(r, n, few); Frame(s) != framed(s) {
				t.Errorf("%d bytes", n)
			}
		}
	}
}

func checkParse(t *testing.T, what, s string, records []string, taken int) {
	t.Helper()
	if got, n := Parse(s); !slices.Equal(got, records) || n != taken {
		t.Errorf("%s: %d records, %d bytes, not %d, %d", what, len(got), n, len(records), taken)
	}
}

// P15.1: the document's example, and a log cut off at each place.
func TestParse(t *testing.T) {
	checkParse(t, "the example", framed("a")+"\x01", []string{"a"}, 9)
	checkParse(t, "nothing", "", nil, 0)
	records := []string{"a", "", "bc", "\x00\x00\x00\x00\x00\x00\x00\x00", framed("x"), "", "last"}
	whole := framed(records...)
	for cut := range len(whole) + 1 {
		k := 0
		for k < len(records) && len(framed(records[:k+1]...)) <= cut {
			k++
		}
		checkParse(t, fmt.Sprint("cut at ", cut), whole[:cut], records[:k], len(framed(records[:k]...)))
	}
}

// P15.1: lengths at the limit, and numbers that no length is.
func TestParseLength(t *testing.T) {
	most := strings.Repeat("x", 5000)
	checkParse(t, "5000", framed(most, "a"), []string{most, "a"}, 5008+9)
	checkParse(t, "5001", framed(most+"x", "a"), nil, 0)
	checkParse(t, "5001 behind one", framed("a", most+"x", "a"), []string{"a"}, 9)
	checkParse(t, "70000", framed(strings.Repeat("x", 70000)), nil, 0)
	for _, size := range []string{
		"\xff\xff\xff\xff", "\x00\x00\x00\x80", "\xff\xff\xff\x7f", "\xf8\xff\xff\xff", "\xfc\xff\xff\xff",
		"\x01\x00\x01\x00", "\x01\x00\x00\x01", "\x01\x01\x00\x00", "\x00\x00\x00\x00",
	} {
		checkParse(t, fmt.Sprintf("%x", size), size+framed("a")[4:], nil, 0)
	}
}

// P15.1: no records more than the limit; noughts are frames of empty records.
func TestParseMost(t *testing.T) {
	for _, n := range []int{199, 200, 201, 300} {
		records := slices.Repeat([]string{"ab"}, n)
		k := min(n, 200)
		checkParse(t, fmt.Sprint(n, " records"), framed(records...), records[:k], 10*k)
		checkParse(t, fmt.Sprint(n, " empty records"), strings.Repeat("\x00", 8*n+3), make([]string, k), 8*k)
	}
}

// P15.1: each byte of a frame turned into each other one.
func TestParseSpoilt(t *testing.T) {
	whole := framed("first", "ab", "last")
	for at := range len(whole) {
		for c := range 256 {
			s := whole[:at] + string([]byte{byte(c)}) + whole[at+1:]
			records, taken := parsed(s)
			checkParse(t, fmt.Sprint("byte ", at, " is ", c), s, records, taken)
			if s != whole && (len(records) == 3 || at >= 13 && len(records) == 0) {
				t.Errorf("byte %d, %d: %d records", at, c, len(records))
			}
		}
	}
}

// P15.1, P6: what was framed is read again, whatever stands behind it; with dice.
func TestParseDice(t *testing.T) {
	r := dice()
	for range 3000 {
		var records []string
		for range r.IntN(6) {
			records = append(records, randomText(r, r.IntN(30), 1+r.IntN(256)))
		}
		s := framed(records...)
		checkParse(t, "as it is", s, records, len(s))
		s += randomText(r, r.IntN(20), 1+r.IntN(4))
		more, taken := parsed(s)
		checkParse(t, "with bytes behind it", s, more, taken)
		if taken < len(framed(records...)) {
			t.Fatal("the yardstick loses records")
		}
	}
}

// P15.2: an empty log, whatever was there.
func TestFormat(t *testing.T) {
	for _, had := range []string{"", framed("a", "b"), "torn", framed("a") + "torn", strings.Repeat("\x00", 3000)} {
		for _, left := range []string{"", "x", framed("left")} {
			d := fresh(t, 4000)
			if had != "" {
				lay(t, d, Name, had)
			}
			if left != "" {
				lay(t, d, Temp, left)
			}
			ok(t, Format(d))
			alone(t, "formatted", d, Name)
			holds(t, "formatted", d, Name, "")
			says(t, "formatted", opened(t, d), false)
			d.Crash()
			alone(t, "behind a crash", d, Name)
			ok(t, opened(t, d).Add("c"))
			holds(t, "added", d, Name, framed("c"))
		}
	}
	d := fresh(t, 10)
	d.Arm(0)
	is(t, "dead", Format(d), api.ErrDead)
	is(t, "still dead", Format(d), api.ErrDead)
}

// P15.2: no log; a log that is being made is none.
func TestOpenAbsent(t *testing.T) {
	d := fresh(t, 1000)
	for range 2 {
		if l, e := Open(d); l != nil || e != api.ErrAbsent {
			t.Errorf("%v, %d", l, e)
		}
		lay(t, d, Temp, framed("a"))
		lay(t, d, "log2", framed("a"))
	}
}

// P15.2: nothing is written: a full disk will do, and none that is armed dies.
func TestOpenWritesNothing(t *testing.T) {
	text := framed("a", "b") + "torn"
	d := fresh(t, len(text)+3)
	lay(t, d, Name, text)
	lay(t, d, Temp, "xyz")
	// A step and bytes that aren't safe stay so.
	ok(t, d.Append("other", ""), d.Spoil(Temp, 0, 'X'))
	d.Arm(0)
	for range 3 {
		l := opened(t, d)
		says(t, "full", l, true, "a", "b")
	}
	holds(t, "as it was", d, Name, text)
	holds(t, "as it was", d, Temp, "Xyz")
	is(t, "the disk's next call", d.Settle(), api.ErrDead)
	if l, e := Open(d); l != nil || e != api.ErrDead {
		t.Errorf("dead: %v, %d", l, e)
	}
	d.Crash(0)
	alone(t, "nothing was settled", d, Name, Temp)
}

// P15.2: whatever bytes the log has.
func TestOpenAny(t *testing.T) {
	r := dice()
	for range 500 {
		text := randomText(r, r.IntN(60), 1+r.IntN(2))
		records, taken := parsed(text)
		d := fresh(t, 1000)
		lay(t, d, Name, text)
		l := opened(t, d)
		says(t, fmt.Sprintf("%x", text), l, taken < len(text), records...)
		ok(t, l.Add("more"))
		holds(t, "added", d, Name, framed(append(records, "more")...))
		says(t, "added", l, false, append(records, "more")...)
	}
}

// P15.2, P6: what was added is there, in order, as long as nothing is reset.
func TestAdd(t *testing.T) {
	d, l := logged(t, 1<<20)
	says(t, "none", l, false)
	r := dice()
	var want []string
	for _, n := range []int{0, 1, 0, 7, 5000, 4999, 300, 0} {
		s := randomText(r, n, 256)
		ok(t, l.Add(s))
		want = append(want, s)
		says(t, "added", l, false, want...)
		says(t, "opened", opened(t, d), false, want...)
		holds(t, "added", d, Name, framed(want...))
	}
	alone(t, "added", d, Name)
	ok(t, l.Reset())
	says(t, "reset", l, false)
	says(t, "reset, opened", opened(t, d), false)
	holds(t, "reset", d, Name, "")
	ok(t, l.Add("anew"))
	says(t, "added anew", l, false, "anew")
	holds(t, "added anew", d, Name, framed("anew"))
	alone(t, "added anew", d, Name)
}

// P15.2: a record at the limit, and above it; nothing is done then.
func TestAddBig(t *testing.T) {
	d, l := logged(t, 1<<20, "a")
	d.Arm(0)
	for _, n := range []int{5001, 5002, 65536, 100000} {
		is(t, fmt.Sprint(n, " bytes"), l.Add(strings.Repeat("x", n)), api.ErrBig)
	}
	d.Arm(-1)
	says(t, "as it was", l, false, "a")
	holds(t, "as it was", d, Name, framed("a"))
	most := strings.Repeat("x", 5000)
	ok(t, l.Add(most))
	says(t, "5000 bytes", opened(t, d), false, "a", most)
}

// P15.2: as many records as there may be, and one more; a reset makes room for others.
func TestAddMost(t *testing.T) {
	d, l := logged(t, 1<<20)
	var want []string
	for i := range 200 {
		want = append(want, fmt.Sprint("number ", i))
		ok(t, l.Add(want[i]))
	}
	for _, s := range []string{"", "x"} {
		is(t, "201", l.Add(s), api.ErrBig)
		is(t, "201, opened", opened(t, d).Add(s), api.ErrBig)
	}
	says(t, "200", l, false, want...)
	says(t, "200, opened", opened(t, d), false, want...)
	holds(t, "200", d, Name, framed(want...))
	ok(t, l.Reset(), l.Add("x"))
	says(t, "reset", opened(t, d), false, "x")
	// The log's bytes may be more than it counts.
	d = fresh(t, 1<<20)
	lay(t, d, Name, framed(append(want, "201")...))
	l = opened(t, d)
	says(t, "201 frames", l, true, want...)
	is(t, "201 frames", l.Add(""), api.ErrBig)
	says(t, "201 frames", l, true, want...)
	holds(t, "201 frames", d, Name, framed(append(want, "201")...))
	ok(t, l.Reset())
	says(t, "reset", l, false)
	holds(t, "reset", d, Name, "")
}

// P15.2: bytes behind the last whole record are told of, and gone once something was written.
func TestTorn(t *testing.T) {
	records := []string{"a", "bc"}
	for _, tail := range []string{"\x05", "\x05\x00", framed("x")[:8], "\x00\x00\x00\x00\x00\x00\x00\x01", framed("x")[:8] + "?" + framed("y"), framed(strings.Repeat("x", 5001))} {
		d := fresh(t, 20000)
		lay(t, d, Name, framed(records...)+tail)
		l := opened(t, d)
		says(t, "torn", l, true, records...)
		is(t, "too big", l.Add(strings.Repeat("x", 5001)), api.ErrBig)
		says(t, "still torn", l, true, records...)
		ok(t, l.Add("d"))
		says(t, "added", l, false, "a", "bc", "d")
		holds(t, "added", d, Name, framed("a", "bc", "d"))
		alone(t, "added", d, Name)
		says(t, "added, opened", opened(t, d), false, "a", "bc", "d")
		ok(t, l.Add("e"))
		holds(t, "added", d, Name, framed("a", "bc", "d", "e"))
		lay(t, d, Name, tail)
		l = opened(t, d)
		says(t, "torn", l, true, "a", "bc", "d", "e")
		ok(t, l.Reset())
		says(t, "reset", l, false)
		holds(t, "reset", d, Name, "")
		alone(t, "reset", d, Name)
	}
}

// P15.2: bytes that come to stand in the log behind Open's back don't hide what is added then.
func TestTornSince(t *testing.T) {
	d, l := logged(t, 1000, "a")
	ok(t, d.Append(Name, "\x05\x00"), l.Add("b"))
	holds(t, "added", d, Name, framed("a", "b"))
	says(t, "added", l, false, "a", "b")
	// Two logs of one disk: neither takes away what was added by the other.
	other := opened(t, d)
	ok(t, l.Add("c"), other.Add("d"), l.Add("e"))
	holds(t, "both", d, Name, framed("a", "b", "c", "d", "e"))
	says(t, "both", l, false, "a", "b", "c", "d", "e")
}

// P15.2: room to the very byte; a log that isn't torn needs no more than the frame has.
func TestAddSpace(t *testing.T) {
	for _, room := range []int{9 + 10 + 7, 9 + 10 + 7 - 1} {
		d, l := logged(t, room, "a")
		lay(t, d, "other", "1234567")
		before := l.Records()
		want := api.OK
		if room < 26 {
			want = api.ErrSpace
		}
		is(t, fmt.Sprint("room ", room), l.Add("bc"), want)
		if want == api.OK {
			before = append(before, "bc")
		}
		for range 2 {
			says(t, fmt.Sprint("room ", room), l, false, before...)
			holds(t, fmt.Sprint("room ", room), d, Name, framed(before...))
			alone(t, fmt.Sprint("room ", room), d, Name, "other")
			d.Crash(1, 1)
			l = opened(t, d)
		}
	}
}

// P15.2: a torn log's new file needs room beside the old one, but none beside one that was being made.
func TestAddTornSpace(t *testing.T) {
	text := framed("a") + "torn"
	needs := len(text) + len(framed("a", "bc"))
	for _, left := range []string{"", "left", strings.Repeat("l", len(framed("a", "bc")))} {
		for _, room := range []int{needs, needs - 1, len(text) + len(left)} {
			if room < len(text)+len(left) {
				continue
			}
			d := fresh(t, room)
			lay(t, d, Name, text)
			if left != "" {
				lay(t, d, Temp, left)
			}
			l := opened(t, d)
			what := fmt.Sprint(len(left), " left, room ", room)
			if room >= needs {
				ok(t, l.Add("bc"))
				says(t, what, l, false, "a", "bc")
				holds(t, what, d, Name, framed("a", "bc"))
				alone(t, what, d, Name)
				continue
			}
			is(t, what, l.Add("bc"), api.ErrSpace)
			says(t, what, l, true, "a")
			holds(t, what, d, Name, text)
			d.Crash(1)
			says(t, what, opened(t, d), true, "a")
			ok(t, opened(t, d).Reset())
			alone(t, what, d, Name)
		}
	}
}

// P15.2: a reset, and a new log, need no room.
func TestResetFull(t *testing.T) {
	for _, tail := range []string{"", "torn"} {
		for _, left := range []string{"", "left over"} {
			for _, format := range []bool{false, true} {
				text := framed("a", "bc") + tail
				d := fresh(t, len(text)+len(left)+5)
				lay(t, d, Name, text)
				lay(t, d, "other", "12345")
				if left != "" {
					lay(t, d, Temp, left)
				}
				is(t, "full", d.Append("other", "6"), api.ErrSpace)
				l := opened(t, d)
				if format {
					ok(t, Format(d))
					l = opened(t, d)
				} else {
					ok(t, l.Reset())
				}
				says(t, "full", l, false)
				holds(t, "full", d, Name, "")
				holds(t, "full", d, "other", "12345")
				alone(t, "full", d, Name, "other")
				d.Crash()
				says(t, "behind a crash", opened(t, d), false)
			}
		}
	}
}

// scene: a disk, a call that changes its log, and which records there are ahead of it and behind it.
type scene struct {
	what          string
	set           func(*testing.T, *disk.Disk)
	call          func(*testing.T, *disk.Disk) api.Errno
	absent        bool // there is no log ahead of the call
	before, after []string
}

// laid: a log with these bytes.
func laid(text string) func(*testing.T, *disk.Disk) {
	return func(t *testing.T, d *disk.Disk) { lay(t, d, Name, text) }
}

// beside: the same, and a file that was being made when the disk crashed.
func beside(text, left string) func(*testing.T, *disk.Disk) {
	return func(t *testing.T, d *disk.Disk) {
		if text != "" {
			lay(t, d, Name, text)
		}
		lay(t, d, Temp, left)
	}
}

func adding(s string) func(*testing.T, *disk.Disk) api.Errno {
	return func(t *testing.T, d *disk.Disk) api.Errno { return opened(t, d).Add(s) }
}

func formatting(_ *testing.T, d *disk.Disk) api.Errno {
	return Format(d)
}

func resetting(t *testing.T, d *disk.Disk) api.Errno {
	return opened(t, d).Reset()
}

func scenes() []scene {
	ab := []string{"a", "b"}
	abc := []string{"a", "b", "cde"}
	text := framed(ab...)
	nothing := func(*testing.T, *disk.Disk) {}
	return []scene{
		{"Format of an empty disk", nothing, formatting, true, nil, nil},
		{"Format beside what was left", beside("", "x"), formatting, true, nil, nil},
		{"Format beside a whole log that was left", beside("", text), formatting, true, nil, nil},
		{"Format of a log", laid(text), formatting, false, ab, nil},
		{"Format of a torn log", laid(text + "torn"), formatting, false, ab, nil},
		{"the first Add", laid(""), adding("cde"), false, nil, []string{"cde"}},
		{"Add", laid(text), adding("cde"), false, ab, abc},
		{"Add of nothing", laid(text), adding(""), false, ab, []string{"a", "b", ""}},
		{"Add of what looks like frames", laid(text), adding(framed("x", "y")), false, ab, []string{"a", "b", framed("x", "y")}},
		{"Add beside what was left", beside(text, "xyz"), adding("cde"), false, ab, abc},
		{"Add to a torn log", laid(text + "torn"), adding("cde"), false, ab, abc},
		{"Add to noughts", laid(text + "\x00\x00\x00"), adding("cde"), false, ab, abc},
		{"Add to a torn log beside what was left", beside(text+"torn", framed("x", "y", "z")), adding("cde"), false, ab, abc},
		{"Add to a torn log beside an empty file", beside(text+"torn", ""), adding("cde"), false, ab, abc},
		{"Reset", laid(text), resetting, false, ab, nil},
		{"Reset of an empty log", laid(""), resetting, false, nil, nil},
		{"Reset of a torn log", laid(text + "torn"), resetting, false, ab, nil},
		{"Reset beside what was left", beside(text, framed("x")), resetting, false, ab, nil},
	}
}

// someKeeps: numbers by dice, or none.
func someKeeps(r *rand.Rand) []int {
	var out []int
	for range r.IntN(8) {
		out = append(out, r.IntN(80)-10)
	}
	return out
}

// found: which of a scene's two logs a disk has behind a crash.
func found(t *testing.T, what string, d *disk.Disk, c scene) (*Log, bool) {
	t.Helper()
	l, e := Open(d)
	if c.absent && e == api.ErrAbsent {
		return nil, false
	}
	if e != api.OK {
		t.Fatalf("%s: Open: %d", what, e)
	}
	if !c.absent && slices.Equal(l.Records(), c.before) {
		return l, false
	}
	if !slices.Equal(l.Records(), c.after) {
		t.Fatalf("%s: %q", what, l.Records())
	}
	return l, true
}

// untouched: two files as they were, and no files but the log's own beside them.
func untouched(t *testing.T, what string, d *disk.Disk) {
	t.Helper()
	holds(t, what, d, "lo", "other")
	holds(t, what, d, "log.old", framed("other"))
	names, _ := d.List()
	names = slices.DeleteFunc(names, func(s string) bool { return s == Name || s == Temp })
	if !slices.Equal(names, []string{"lo", "log.old"}) {
		t.Fatalf("%s: %q", what, names)
	}
}

// dies: a scene's call on a disk that dies behind n calls, and crashes; is it answered by OK?
func dies(t *testing.T, r *rand.Rand, c scene, n int) bool {
	t.Helper()
	d := fresh(t, 1000)
	lay(t, d, "lo", "other")
	lay(t, d, "log.old", framed("other"))
	c.set(t, d)
	d.Arm(n)
	e := c.call(t, d)
	keeps := someKeeps(r)
	what := fmt.Sprint(c.what, ", dying behind ", n, ", keeps ", keeps)
	if e != api.OK && e != api.ErrDead {
		t.Fatalf("%s: %d", what, e)
	}
	d.Crash(keeps...)
	l, made := found(t, what, d, c)
	if e == api.OK && !made && !slices.Equal(c.before, c.after) {
		t.Fatalf("%s: answered by OK, and lost", what)
	}
	untouched(t, what, d)
	goesOn(t, what, d, l)
	untouched(t, what, d)
	return e == api.OK
}

// goesOn: behind a crash the log is as good as any, whatever was left beside it.
func goesOn(t *testing.T, what string, d *disk.Disk, l *Log) {
	t.Helper()
	if l == nil {
		ok(t, Format(d))
		l = opened(t, d)
	}
	want := append(l.Records(), "more")
	ok(t, l.Add("more"))
	d.Crash()
	l = opened(t, d)
	says(t, what, l, false, want...)
	holds(t, what, d, Name, framed(want...))
	ok(t, l.Reset())
	d.Crash()
	says(t, what, opened(t, d), false)
	alone(t, what, d, "lo", Name, "log.old")
}

// P15.3, P15.4, P5: wherever the disk dies, and whatever a crash keeps.
func TestCrashes(t *testing.T) {
	r := dice()
	for _, c := range scenes() {
		n := 0
		for ended := false; !ended; n++ {
			for range 400 {
				ended = dies(t, r, c, n)
			}
			if n > 50 {
				t.Fatalf("%s: no end", c.what)
			}
		}
		if n < 2 {
			t.Errorf("%s: safe behind no call at all", c.what)
		}
	}
}

// P15.3: what a call made that was answered by OK is safe, also if the log was not when it was opened.
func TestAddSafely(t *testing.T) {
	for _, tail := range []string{"", "torn"} {
		for _, call := range []func(*Log) api.Errno{
			func(l *Log) api.Errno { return l.Add("b") },
			func(l *Log) api.Errno { return l.Reset() },
		} {
			d := fresh(t, 1000)
			ok(t, d.Append(Name, framed("a")+tail))
			l := opened(t, d)
			ok(t, call(l))
			want := l.Records()
			d.Crash()
			says(t, "behind a crash", opened(t, d), false, want...)
		}
	}
	d := fresh(t, 1000)
	ok(t, Format(d))
	d.Crash()
	says(t, "a new log", opened(t, d), false)
}

// P15.3: an ErrSpace changes nothing behind a crash either, and the room of files that come back isn't taken.
func TestCrashFull(t *testing.T) {
	r := dice()
	for n := range 12 {
		for range 100 {
			text := framed("a") + "torn"
			d := fresh(t, len(text)+20)
			lay(t, d, Name, text)
			lay(t, d, "other", strings.Repeat("o", 20))
			l := opened(t, d)
			is(t, "full", l.Add("b"), api.ErrSpace)
			ok(t, d.Remove("other"))
			d.Arm(n)
			e := l.Add("b")
			d.Crash(someKeeps(r)...)
			if e == api.OK {
				says(t, "there was room", opened(t, d), false, "a", "b")
			} else if got := opened(t, d).Records(); e != api.ErrDead || !slices.Equal(got, []string{"a"}) && !slices.Equal(got, []string{"a", "b"}) {
				t.Fatalf("behind %d: %d, %q", n, e, got)
			}
			ok(t, opened(t, d).Reset())
		}
	}
}

// P15.3: bytes that crashes left, one behind the other, are never taken for others.
func TestCrashAgain(t *testing.T) {
	r := dice()
	for range 2000 {
		d, l := logged(t, 4000)
		var want []string
		for i := range 1 + r.IntN(12) {
			s := fmt.Sprint(i) + randomText(r, r.IntN(12), 2)
			d.Arm(r.IntN(8))
			e := l.Add(s)
			if e == api.OK && r.IntN(2) == 0 {
				want = append(want, s)
				continue
			}
			d.Crash(someKeeps(r)...)
			l = opened(t, d)
			got := l.Records()
			if e == api.OK || len(got) == len(want)+1 {
				want = append(want, s)
			}
			if !slices.Equal(got, want) {
				t.Fatalf("%d: %q, not %q", e, got, want)
			}
		}
	}
}

// table is a disk with a log, played with dice, and what it must say.
type table struct {
	dice   *rand.Rand
	disk   *disk.Disk
	log    *Log
	room   int
	want   []string
	others map[string]string
	seen   map[string]int
}

// spare: what the disk would have room for, but for a log that was being made.
func (p *table) spare() int {
	left, _ := p.disk.Read(Temp)
	return p.room - p.disk.Used() + len(left)
}

// add: the answer hangs on room and bounds alone.
func (p *table) add(t *testing.T, s string) {
	had := p.log.Torn()
	text, _ := p.disk.Read(Name)
	want, needs, spare := api.OK, len(framed(s)), p.room-p.disk.Used()
	if had {
		needs, spare = len(framed(append(slices.Clone(p.want), s)...)), p.spare()
	}
	if len(s) > 5000 {
		want = api.ErrBig
	} else if needs > spare {
		want = api.ErrSpace
	}
	e := p.log.Add(s)
	p.seen[fmt.Sprint("Add ", e, " torn ", had)]++
	if e == api.ErrDead {
		p.crash(t, append(slices.Clone(p.want), s))
		return
	}
	if e != want {
		t.Fatalf("Add: %d, not %d", e, want)
	}
	if e == api.OK {
		p.want, had = append(p.want, s), false
		text = framed(p.want...)
	}
	says(t, "Add", p.log, had, p.want...)
	holds(t, "Add", p.disk, Name, text)
}

// empty: by Reset, or by Format.
func (p *table) empty(t *testing.T, format bool) {
	e := api.OK
	if format {
		e = Format(p.disk)
	} else {
		e = p.log.Reset()
	}
	p.seen[fmt.Sprint("empty ", e, " ", format)]++
	if e == api.ErrDead {
		p.crash(t, nil)
		return
	}
	ok(t, e)
	if format {
		p.log = opened(t, p.disk)
	}
	p.want = nil
	says(t, "empty", p.log, false)
	holds(t, "empty", p.disk, Name, "")
}

// crash: behind it the log has what it had, or what a call that died would have made of it.
func (p *table) crash(t *testing.T, or []string) {
	p.disk.Crash(someKeeps(p.dice)...)
	p.log = opened(t, p.disk)
	got := p.log.Records()
	if !slices.Equal(got, p.want) && !slices.Equal(got, or) {
		t.Fatalf("%q, neither %q nor %q", got, p.want, or)
	}
	p.want = got
}

// other: a file more that isn't the log's, or is removed, safely.
func (p *table) other(t *testing.T, name, data string) {
	if _, there := p.others[name]; there {
		ok(t, p.disk.Remove(name), p.disk.Settle())
		delete(p.others, name)
	} else if p.disk.Append(name, data) == api.OK {
		ok(t, p.disk.Sync(name), p.disk.Settle())
		p.others[name] = data
	}
}

func (p *table) check(t *testing.T) {
	names, _ := p.disk.List()
	for _, name := range names {
		if _, there := p.others[name]; !there && name != Name && name != Temp {
			t.Fatalf("a file %q", name)
		}
	}
	for name, data := range p.others {
		holds(t, "another file", p.disk, name, data)
	}
}

// play: something happens, by dice.
func (p *table) play(t *testing.T) {
	r := p.dice
	switch r.IntN(10) {
	case 0, 1, 2, 3:
		p.add(t, randomText(r, []int{0, 1, 5, 20, 40, 5001}[r.IntN(6)], 3))
	case 4:
		p.empty(t, r.IntN(3) == 0)
	case 5:
		p.disk.Arm(-1)
		p.other(t, []string{"a", "log.", "tmp"}[r.IntN(3)], randomText(r, r.IntN(20), 256))
	case 6:
		p.disk.Arm(r.IntN(12))
	case 7:
		p.disk.Crash(someKeeps(r)...)
		p.log = opened(t, p.disk)
		if got := p.log.Records(); !slices.Equal(got, p.want) {
			t.Fatalf("behind a crash: %q, not %q", got, p.want)
		}
	case 8:
		p.disk.Arm(-1)
		if p.disk.Append(Name, "\x09\x00\x00\x00"[:1+r.IntN(4)]) == api.OK {
			ok(t, p.disk.Sync(Name))
		}
		p.log = opened(t, p.disk)
	case 9:
		says(t, "opened", opened(t, p.disk), p.log.Torn(), p.want...)
	}
}

// P15.2, P15.3, P15.4, P2: behind any calls, with dice.
func TestDice(t *testing.T) {
	r := dice()
	seen := map[string]int{}
	for range 1500 {
		room := []int{60, 150, 400, 20000}[r.IntN(4)]
		d, l := logged(t, room)
		p := &table{dice: r, disk: d, log: l, room: room, others: map[string]string{}, seen: seen}
		for range r.IntN(60) {
			p.play(t)
			p.check(t)
		}
	}
	for _, what := range []string{
		"Add 0 torn false", "Add 0 torn true", "Add 2 torn false", "Add 2 torn true", "Add 9 torn false", "Add 9 torn true",
		"Add 10 torn false", "Add 10 torn true", "empty 0 false", "empty 0 true", "empty 10 false", "empty 10 true",
	} {
		if seen[what] < 100 {
			t.Errorf("%s: %d, too few to tell", what, seen[what])
		}
	}
}

// P15.4, K3: answers are new memory.
func TestNewMemory(t *testing.T) {
	d, l := logged(t, 1000, "a", "b")
	one, two := l.Records(), l.Records()
	_ = append(one, "behind")
	clear(one)
	says(t, "as it was", l, false, "a", "b")
	ok(t, l.Add("c"))
	if !slices.Equal(two, []string{"a", "b"}) {
		t.Errorf("%q", two)
	}
	three := l.Records()
	ok(t, l.Reset(), l.Add("d"))
	if !slices.Equal(three, []string{"a", "b", "c"}) {
		t.Errorf("%q", three)
	}
	says(t, "another log", opened(t, d), false, "d")
	text := framed("a", "b")
	first, _ := Parse(text)
	clear(first)
	checkParse(t, "again", text, []string{"a", "b"}, len(text))
}

// K4: the same calls have the same answers.
func TestSame(t *testing.T) {
	run := func() string {
		d, l := logged(t, 1000, "a", "b")
		d.Arm(2)
		l.Add("c")
		d.Crash(3)
		return fmt.Sprint(opened(t, d).Records(), opened(t, d).Torn())
	}
	first := run()
	for range 10 {
		if again := run(); again != first {
			t.Fatalf("%s, not %s", again, first)
		}
	}
}
