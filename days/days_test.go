package days

import (
	"math"
	"testing"
	"time"

	"cellarer/api"
)

// told: all that is told of a second.
type told struct {
	day, week, month int
	date             string
}

// of: by the package.
func of(t *testing.T, second int) told {
	t.Helper()
	date, e := Date(second)
	if e != api.OK {
		t.Fatalf("Date(%d): %d", second, e)
	}
	return told{Day(second), Week(second), Month(second), date}
}

// P20.1, P20.2: the chapter's example, and turns of days, weeks, months and years.
func TestExamples(t *testing.T) {
	for second, want := range map[int]told{
		0:                       {0, 0, 0, "1970-01-01"},
		1:                       {0, 0, 0, "1970-01-01"},
		86399:                   {0, 0, 0, "1970-01-01"},
		86400:                   {1, 0, 0, "1970-01-02"},
		4*86400 - 1:             {3, 0, 0, "1970-01-04"},
		4 * 86400:               {4, 1, 0, "1970-01-05"},
		11*86400 - 1:            {10, 1, 0, "1970-01-11"},
		11 * 86400:              {11, 2, 0, "1970-01-12"},
		31*86400 - 1:            {30, 4, 0, "1970-01-31"},
		31 * 86400:              {31, 4, 1, "1970-02-01"},
		59*86400 - 1:            {58, 8, 1, "1970-02-28"},
		59 * 86400:              {59, 8, 2, "1970-03-01"},
		365*86400 - 1:           {364, 52, 11, "1970-12-31"},
		365 * 86400:             {365, 52, 12, "1971-01-01"},
		68169600:                {789, 113, 25, "1972-02-29"},
		68256000:                {790, 113, 26, "1972-03-01"},
		951782400:               {11016, 1574, 361, "2000-02-29"},
		951868800:               {11017, 1574, 362, "2000-03-01"},
		1136214245:              {13150, 1879, 432, "2006-01-02"},
		1136214245 - 86400:      {13149, 1878, 432, "2006-01-01"},
		1136214245 - 2*86400:    {13148, 1878, 431, "2005-12-31"},
		1<<31 - 1:               {24855, 3551, 816, "2038-01-19"},
		1 << 31:                 {24855, 3551, 816, "2038-01-19"},
		1 << 32:                 {49710, 7101, 1633, "2106-02-07"},
		4107542399:              {47540, 6791, 1561, "2100-02-28"},
		4107542400:              {47541, 6792, 1562, "2100-03-01"},
		253402300799:            {2932896, 418985, 96359, "9999-12-31"},
		253402300799 - 86399:    {2932896, 418985, 96359, "9999-12-31"},
		253402300799 - 86400:    {2932895, 418985, 96359, "9999-12-30"},
		253402300799 - 31*86400: {2932865, 418981, 96358, "9999-11-30"},
	} {
		if got := of(t, second); got != want {
			t.Errorf("%d: %v, not %v", second, got, want)
		}
	}
}

// P20.1, P20.2: what isn't a second of these years.
func TestOutside(t *testing.T) {
	for _, second := range []int{-1, -2, -86400, -86401, math.MinInt, math.MinInt + 1, math.MinInt32,
		api.MaxTime + 1, api.MaxTime + 2, api.MaxTime + 86400, 1 << 40, math.MaxInt, math.MaxInt - 1} {
		if Day(second) != -1 || Week(second) != -1 || Month(second) != -1 {
			t.Errorf("%d: %d, %d, %d", second, Day(second), Week(second), Month(second))
		}
		if s, e := Date(second); s != "" || e != api.ErrArg {
			t.Errorf("%d: %q, %d", second, s, e)
		}
	}
}

// P20.1, P20.2: the first and the last second of every day, by the library's calendar; weeks and months are counted by the days on which they begin.
func TestAllDays(t *testing.T) {
	want := told{day: -1, month: -1}
	for begin := 0; begin <= api.MaxTime; begin += 86400 {
		at := time.Unix(int64(begin), 0).UTC()
		want.day++
		if at.Weekday() == time.Monday {
			want.week++
		}
		if at.Day() == 1 {
			want.month++
		}
		want.date = at.Format("2006-01-02")
		for _, second := range []int{begin, begin + 86399} {
			if got := of(t, second); got != want {
				t.Fatalf("%d: %v, not %v", second, got, want)
			}
		}
	}
	if want.date != "9999-12-31" {
		t.Error(want)
	}
}

// P20.1, P20.2: each second of some days is of that day, at the turns of which all three numbers change or don't.
func TestAllSeconds(t *testing.T) {
	for _, begin := range []int{0, 3 * 86400, 951696000, 951782400, 1136160000, 4107456000, api.MaxTime - 86399} {
		want := of(t, begin)
		for second := begin; second < begin+86400; second++ {
			if Day(second) != want.day || Week(second) != want.week || Month(second) != want.month {
				t.Fatalf("%d: %d, %d, %d, not %v", second, Day(second), Week(second), Month(second), want)
			}
		}
		if begin > 0 && Day(begin-1) != want.day-1 {
			t.Errorf("%d: the day ahead: %d", begin, Day(begin-1))
		}
	}
}
