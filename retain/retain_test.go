package retain

import (
	"fmt"
	"math"
	"math/rand/v2"
	"reflect"
	"slices"
	"testing"
	"time"

	"cellarer/api"
)

const day = 86400

// dice: the same numbers in every run.
func dice() *rand.Rand {
	return rand.New(rand.NewPCG(35, 21))
}

// at: snapshots of these times, called 0, 1, 2 and so on.
func at(times ...int) []api.Snap {
	var out []api.Snap
	for i, t := range times {
		out = append(out, api.Snap{Id: fmt.Sprint(i), Time: t})
	}
	return out
}

// second: that of a date.
func second(year, month, day, hour int) int {
	return int(time.Date(year, time.Month(month), day, hour, 0, 0, 0, time.UTC).Unix())
}

// kept: the places of those that are kept.
func kept(t *testing.T, p Policy, l []api.Snap) []int {
	t.Helper()
	marks, e := Keep(p, l)
	if e != api.OK || len(marks) != len(l) {
		t.Fatalf("Keep(%v): %d marks of %d, %d", p, len(marks), len(l), e)
	}
	var out []int
	for i, m := range marks {
		if m {
			out = append(out, i)
		}
	}
	return out
}

// keeps: which places a policy is to keep.
func keeps(t *testing.T, what string, p Policy, l []api.Snap, want ...int) {
	t.Helper()
	if got := kept(t, p, l); !slices.Equal(got, want) {
		t.Errorf("%s: %v, not %v", what, got, want)
	}
	var left []string
	for i, s := range l {
		if !slices.Contains(want, i) {
			left = append(left, s.Id)
		}
	}
	if got, e := Gone(p, l); !slices.Equal(got, left) || e != api.OK {
		t.Errorf("%s: gone %v, %d, not %v", what, got, e, left)
	}
}

// refused: all three calls answer this error, and nothing else.
func refused(t *testing.T, what string, p Policy, l []api.Snap, want api.Errno) {
	t.Helper()
	if e := Check(p, l); e != want {
		t.Errorf("%s: Check: %d, not %d", what, e, want)
	}
	if marks, e := Keep(p, l); len(marks) != 0 || e != want {
		t.Errorf("%s: Keep: %v, %d, not %d", what, marks, e, want)
	}
	if ids, e := Gone(p, l); len(ids) != 0 || e != want {
		t.Errorf("%s: Gone: %v, %d, not %d", what, ids, e, want)
	}
}

// P21.1: the chapter's example.
func TestExample(t *testing.T) {
	l := at(0, 100, 86400, 86500)
	keeps(t, "one day", Policy{Daily: 1}, l, 3)
	keeps(t, "two days", Policy{Daily: 2}, l, 1, 3)
	keeps(t, "the last three", Policy{Last: 3}, l, 1, 2, 3)
	keeps(t, "nothing", Policy{}, l)
}

// P21.1: numbers below 0, times that are none, and times that fall; of several the first.
func TestCheck(t *testing.T) {
	good := at(0, 0, 5, api.MaxTime, api.MaxTime)
	for _, p := range []Policy{{}, {Last: math.MaxInt, Daily: math.MaxInt, Weekly: math.MaxInt, Monthly: math.MaxInt}} {
		if e := Check(p, good); e != api.OK {
			t.Errorf("%v: %d", p, e)
		}
		if e := Check(p, nil); e != api.OK {
			t.Errorf("%v of none: %d", p, e)
		}
	}
	bad := at(-1)
	for _, n := range []int{-1, math.MinInt} {
		for i, p := range []Policy{{Last: n}, {Daily: n}, {Weekly: n}, {Monthly: n}, {Last: 3, Daily: 3, Weekly: 3, Monthly: n}} {
			refused(t, fmt.Sprint("policy ", i), p, good, api.ErrArg)
			refused(t, fmt.Sprint("policy of none ", i), p, nil, api.ErrArg)
			refused(t, fmt.Sprint("policy ahead of times ", i), p, bad, api.ErrArg)
		}
	}
	for _, l := range [][]api.Snap{bad, at(math.MinInt), at(api.MaxTime + 1), at(math.MaxInt), at(1, 0), at(0, -1), at(-1, 0),
		at(0, 5, 4, 9), at(0, 5, 9, 8), at(5, 6, api.MaxTime+1), at(api.MaxTime, api.MaxTime+1), at(api.MaxTime, api.MaxTime-1)} {
		refused(t, fmt.Sprint(l), Policy{Last: 9, Tags: []string{""}}, l, api.ErrForm)
		refused(t, fmt.Sprint(l), Policy{}, l, api.ErrForm)
	}
}

// P21.1: the last ones are told by the list, whatever their times.
func TestLast(t *testing.T) {
	l := at(7, 7, 7, 8)
	keeps(t, "0", Policy{Last: 0}, l)
	keeps(t, "1", Policy{Last: 1}, l, 3)
	keeps(t, "2", Policy{Last: 2}, l, 2, 3)
	keeps(t, "3", Policy{Last: 3}, l, 1, 2, 3)
	for _, n := range []int{4, 5, math.MaxInt} {
		keeps(t, fmt.Sprint(n), Policy{Last: n}, l, 0, 1, 2, 3)
		keeps(t, "none there", Policy{Last: n, Daily: n, Weekly: n, Monthly: n, Tags: []string{""}}, nil)
	}
}

// P21.1: all of a tag are kept, tag for tag; the empty one is one as well.
func TestTags(t *testing.T) {
	l := at(0, 1, 2, 3, 4, 5)
	for i, tag := range []string{"x", "", "y", "x", "X", "xy"} {
		l[i].Tag = tag
	}
	keeps(t, "x", Policy{Tags: []string{"x"}}, l, 0, 3)
	keeps(t, "x twice", Policy{Tags: []string{"x", "x"}}, l, 0, 3)
	keeps(t, "none", Policy{Tags: []string{""}}, l, 1)
	keeps(t, "three", Policy{Tags: []string{"xy", "", "y"}}, l, 1, 2, 5)
	keeps(t, "others", Policy{Tags: []string{"z", "x ", "a/b", "\x00"}}, l)
	keeps(t, "no tags", Policy{Tags: []string{}}, l)
	odd := []api.Snap{{Id: "a", Tag: "a/b\xff"}, {Id: "a", Tag: "c"}}
	keeps(t, "tags that no snapshot has", Policy{Tags: []string{"a/b\xff"}}, odd, 0)
}

// P21.1: of a day the last one in the list; only days that have snapshots count.
func TestDays(t *testing.T) {
	l := at(0, day-1, day, day, day+1, 40*day, 40*day+5, 41*day-1, 41*day, 99*day)
	keeps(t, "1", Policy{Daily: 1}, l, 9)
	keeps(t, "2", Policy{Daily: 2}, l, 8, 9)
	keeps(t, "3", Policy{Daily: 3}, l, 7, 8, 9)
	keeps(t, "4", Policy{Daily: 4}, l, 4, 7, 8, 9)
	for _, n := range []int{5, 6, math.MaxInt} {
		keeps(t, fmt.Sprint(n), Policy{Daily: n}, l, 1, 4, 7, 8, 9)
	}
	keeps(t, "one second", Policy{Daily: 1}, at(5, 5, 5), 2)
	keeps(t, "the last day of all", Policy{Daily: 1}, at(api.MaxTime-day, api.MaxTime, api.MaxTime), 2)
	keeps(t, "the first day of all", Policy{Daily: 1, Weekly: 1, Monthly: 1}, at(0), 0)
}

// P21.1: weeks begin on a Monday, whatever the month and the year.
func TestWeeks(t *testing.T) {
	sunday, monday := second(2006, 1, 1, 23), second(2006, 1, 2, 0)
	l := at(second(2005, 12, 26, 0), second(2005, 12, 31, 12), sunday, monday, second(2006, 1, 8, 23), second(2006, 1, 9, 0))
	keeps(t, "1", Policy{Weekly: 1}, l, 5)
	keeps(t, "2", Policy{Weekly: 2}, l, 4, 5)
	keeps(t, "3", Policy{Weekly: 3}, l, 2, 4, 5)
	keeps(t, "4", Policy{Weekly: 4}, l, 2, 4, 5)
	keeps(t, "the first week has four days", Policy{Weekly: 9}, at(0, 4*day-1, 4*day), 1, 2)
}

// P21.1: months by the calendar; those of two years are two.
func TestMonths(t *testing.T) {
	l := at(second(2003, 2, 28, 23), second(2003, 3, 1, 0), second(2004, 2, 29, 0), second(2004, 2, 29, 23), second(2004, 3, 1, 0), second(2004, 3, 31, 23), second(2005, 3, 1, 0))
	keeps(t, "1", Policy{Monthly: 1}, l, 6)
	keeps(t, "2", Policy{Monthly: 2}, l, 5, 6)
	keeps(t, "3", Policy{Monthly: 3}, l, 3, 5, 6)
	keeps(t, "4", Policy{Monthly: 4}, l, 1, 3, 5, 6)
	keeps(t, "5", Policy{Monthly: 5}, l, 0, 1, 3, 5, 6)
	keeps(t, "9", Policy{Monthly: 9}, l, 0, 1, 3, 5, 6)
}

// P21.1: one reason is enough, and no reason counts for another's number.
func TestReasonsTogether(t *testing.T) {
	l := at(0, 3*day, 4*day, 5*day, 5*day+1, 70*day, 70*day+9, 71*day)
	l[0].Tag = "first"
	keeps(t, "all", Policy{Last: 1, Daily: 2, Weekly: 3, Monthly: 2, Tags: []string{"first"}}, l, 0, 1, 4, 6, 7)
	keeps(t, "weeks and months", Policy{Weekly: 1, Monthly: 2}, l, 4, 7)
	keeps(t, "days and the last", Policy{Last: 2, Daily: 2}, l, 6, 7)
}

// calendar: a day, a week that begins on a Monday, a month, told by the library.
func calendar(second, span int) string {
	u := time.Unix(int64(second), 0).UTC()
	switch span {
	case 0:
		return u.Format("2006-01-02")
	case 1:
		year, week := u.ISOWeek()
		return fmt.Sprint(year, "-", week)
	}
	return u.Format("2006-01")
}

// lastOfSpan: the chapter's words for days, weeks and months, of the snapshot at place i.
func lastOfSpan(l []api.Snap, i, span, count int) bool {
	own := calendar(l[i].Time, span)
	later := map[string]bool{}
	for _, s := range l[i+1:] {
		if calendar(s.Time, span) == own {
			return false
		}
		later[calendar(s.Time, span)] = true
	}
	return len(later) < count
}

// byWords: is the snapshot at place i kept, as the chapter's words say?
func byWords(p Policy, l []api.Snap, i int) bool {
	return len(l)-i <= p.Last || slices.Contains(p.Tags, l[i].Tag) ||
		lastOfSpan(l, i, 0, p.Daily) || lastOfSpan(l, i, 1, p.Weekly) || lastOfSpan(l, i, 2, p.Monthly)
}

// someSnaps: by dice, of times that lie near one another or far apart.
func someSnaps(r *rand.Rand) []api.Snap {
	var out []api.Snap
	now, step := r.IntN(1<<32), 1<<r.IntN(23)
	for i := range r.IntN(30) {
		out = append(out, api.Snap{Id: fmt.Sprint("s", i), Time: now, Tag: []string{"", "", "x", "y", "z"}[r.IntN(5)]})
		now += r.IntN(step)
	}
	return out
}

// somePolicy: by dice.
func somePolicy(r *rand.Rand) Policy {
	p := Policy{Last: r.IntN(4), Daily: r.IntN(6), Weekly: r.IntN(6), Monthly: r.IntN(6)}
	for range r.IntN(3) {
		p.Tags = append(p.Tags, []string{"", "x", "y", "w"}[r.IntN(4)])
	}
	return p
}

// P21.1: many lists and policies, held against the chapter's words.
func TestWords(t *testing.T) {
	r := dice()
	for range 3000 {
		p, l := somePolicy(r), someSnaps(r)
		var want []int
		for i := range l {
			if byWords(p, l, i) {
				want = append(want, i)
			}
		}
		keeps(t, fmt.Sprint(p, l), p, l, want...)
	}
}

// only: those of a list that stand at these places.
func only(l []api.Snap, places []int) []api.Snap {
	var out []api.Snap
	for _, i := range places {
		out = append(out, l[i])
	}
	return out
}

// P21.2: the same policy keeps all that it kept.
func TestAskedAgain(t *testing.T) {
	r := dice()
	for range 3000 {
		p, l := somePolicy(r), someSnaps(r)
		left := only(l, kept(t, p, l))
		if ids, e := Gone(p, left); len(ids) != 0 || e != api.OK {
			t.Fatalf("%v of %v: behind it %v are gone, %d", p, l, ids, e)
		}
	}
}

// wider: a policy that asks for no less.
func wider(r *rand.Rand, p Policy) Policy {
	p.Last += r.IntN(3)
	p.Daily += r.IntN(3)
	p.Weekly += r.IntN(3)
	p.Monthly += r.IntN(3)
	p.Tags = append([]string{"z"}[:r.IntN(2)], p.Tags...)
	return p
}

// P21.2: a wider policy keeps all that the narrower one keeps.
func TestWider(t *testing.T) {
	r := dice()
	for range 3000 {
		p, l := somePolicy(r), someSnaps(r)
		w := wider(r, p)
		more := kept(t, w, l)
		for _, i := range kept(t, p, l) {
			if !slices.Contains(more, i) {
				t.Fatalf("%v of %v keeps %d, but %v doesn't", p, l, i, w)
			}
		}
	}
}

// P21.3: lists, and the room behind them, are as they were; answers are new each time.
func TestNothingChanged(t *testing.T) {
	tags := []string{"y", "x", "spare"}
	l := at(0, 100, 86400, 86500, 86600)
	l[1].Tag = "x"
	wasTags, was := slices.Clone(tags), slices.Clone(l)
	p := Policy{Daily: 1, Tags: tags[:2]}
	marks, _ := Keep(p, l[:4])
	ids, _ := Gone(p, l[:4])
	Check(p, l[:4])
	for i := range marks {
		marks[i] = !marks[i]
	}
	for i := range ids {
		ids[i] = "?"
	}
	if !slices.Equal(tags, wasTags) || !reflect.DeepEqual(l, was) {
		t.Errorf("%v, %v", tags, l)
	}
	keeps(t, "again", p, l[:4], 1, 3)
}

// P21.1: names are told as they stand, also those that stand twice.
func TestNames(t *testing.T) {
	l := []api.Snap{{Id: "b"}, {Id: "a"}, {Id: ""}, {Id: "b"}, {Id: "c"}}
	if ids, e := Gone(Policy{Last: 1}, l); !slices.Equal(ids, []string{"b", "a", "", "b"}) || e != api.OK {
		t.Errorf("%q, %d", ids, e)
	}
}
