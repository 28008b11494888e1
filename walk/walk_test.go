package walk

import (
	"fmt"
	"math"
	"math/rand/v2"
	"slices"
	"sort"
	"strings"
	"testing"

	"cellarer/api"
	"cellarer/path"
)

// dice: the same numbers in every run.
func dice() *rand.Rand {
	return rand.New(rand.NewPCG(19, 20))
}

func dir(at string) api.Item {
	return api.Item{Path: at, Kind: api.Dir}
}

func file(at string) api.Item {
	return api.Item{Path: at, Kind: api.File}
}

func link(at string) api.Item {
	return api.Item{Path: at, Kind: api.Link, Data: "t"}
}

// tree: one of each kind, out of order.
func tree() []api.Item {
	return []api.Item{
		{Path: "a-b", Kind: api.Link, Mode: 1, Time: 2, Data: "../x"},
		{Path: "a/b", Kind: api.File, Mode: 420, Time: 3, Data: "hello"},
		{Path: "é", Kind: api.File, Data: "\x00\xff"},
		{Path: "a", Kind: api.Dir, Mode: 511, Time: api.MaxTime},
		{Path: "a/d/e", Kind: api.File},
		{Path: "a/d", Kind: api.Dir},
	}
}

// treePaths: those of tree, rising.
func treePaths() []string {
	return []string{"a", "a/b", "a/d", "a/d/e", "a-b", "é"}
}

func paths(l []api.Item) []string {
	var out []string
	for _, x := range l {
		out = append(out, x.Path)
	}
	return out
}

// many: n files, rising.
func many(n int) []api.Item {
	var out []api.Item
	for i := range n {
		out = append(out, file(fmt.Sprintf("%04d", i)))
	}
	return out
}

// loose: fit items whose paths may stand twice or in no folder.
func loose(r *rand.Rand, most int) []api.Item {
	var out []api.Item
	for range r.IntN(most + 1) {
		at := string("abc-"[r.IntN(4)])
		for range r.IntN(3) {
			at += "/" + string("ab"[r.IntN(2)])
		}
		x := []api.Item{dir(at), dir(at), file(at), link(at)}[r.IntN(4)]
		x.Mode = r.IntN(2)
		out = append(out, x)
	}
	return out
}

// whole: a tree, in any order.
func whole(r *rand.Rand) []api.Item {
	folders := []string{""}
	seen := map[string]bool{}
	var out []api.Item
	for range r.IntN(30) {
		at := folders[r.IntN(len(folders))] + []string{"a", "b", "c-", "é", "."}[r.IntN(5)]
		if seen[at] || !path.Is(at) {
			continue
		}
		seen[at] = true
		x := []api.Item{dir(at), dir(at), file(at), link(at)}[r.IntN(4)]
		x.Mode, x.Time = r.IntN(2), r.IntN(2)
		if x.Kind == api.Dir {
			folders = append(folders, at+"/")
		} else {
			x.Data = "xyz"[:1+r.IntN(3)]
		}
		out = append(out, x)
	}
	r.Shuffle(len(out), func(i, j int) { out[i], out[j] = out[j], out[i] })
	return out
}

// anyItems: items that need not be fit at all.
func anyItems(r *rand.Rand) []api.Item {
	var out []api.Item
	for i := range r.IntN(30) {
		at := ""
		for range r.IntN(6) {
			at += []string{"a", "b", "/", "/", "-", "\xff", "\x00"}[r.IntN(7)]
		}
		out = append(out, api.Item{Path: at, Kind: r.IntN(6) - 1, Mode: r.IntN(3) - 1, Time: i, Data: strings.Repeat("d", r.IntN(4))})
	}
	return out
}

func checkErrno(t *testing.T, what string, want api.Errno, l ...api.Item) {
	t.Helper()
	if e := Check(l); e != want {
		t.Errorf("%s: Check: %d, not %d", what, e, want)
	}
	got, e := Walk(l)
	if e != want || e != api.OK && len(got) != 0 || e == api.OK && !slices.Equal(got, Sort(l)) {
		t.Errorf("%s: Walk: %v, %d, not %d", what, got, e, want)
	}
	// No items are a tree: the error is that of the other list.
	if got, e := Diff(l, nil); e != want || e != api.OK && len(got) != 0 {
		t.Errorf("%s: Diff from it: %v, %d, not %d", what, got, e, want)
	}
	if got, e := Diff(nil, l); e != want || e != api.OK && len(got) != 0 {
		t.Errorf("%s: Diff to it: %v, %d, not %d", what, got, e, want)
	}
}

func checkDiff(t *testing.T, from, to []api.Item, want ...Change) {
	t.Helper()
	if got, e := Diff(from, to); e != api.OK || !slices.Equal(got, want) {
		t.Errorf("Diff(%v, %v): %v, %d, not %v", from, to, got, e, want)
	}
}

// P13.1, P13.2: the document's examples.
func TestExamples(t *testing.T) {
	checkErrno(t, "no folder", api.ErrAbsent, file("a/b"))
	checkErrno(t, "with its folder", api.OK, dir("a"), file("a/b"))
	checkErrno(t, "with its folder, behind", api.OK, file("a/b"), dir("a"))
	checkErrno(t, "with a file as folder", api.ErrAbsent, file("a"), file("a/b"))
	checkErrno(t, "with a file as folder, behind", api.ErrAbsent, file("a/b"), file("a"))
	other := dir("a")
	other.Mode = 7
	checkDiff(t, []api.Item{dir("a")}, []api.Item{other, file("b")}, Change{"a", 3}, Change{"b", 1})
	if Added != 1 || Removed != 2 || Changed != 3 {
		t.Error("the changes' numbers")
	}
}

// P13.1: by rising paths, not by rising bytes.
func TestSort(t *testing.T) {
	if got := paths(Sort(tree())); !slices.Equal(got, treePaths()) {
		t.Errorf("%q", got)
	}
	if len(Sort(nil)) != 0 || len(Sort([]api.Item{})) != 0 {
		t.Error("of none")
	}
	odd := []string{"b", "\xff", "", "a//b", "/", "a/", "//", "a", "/a", "a\x00"}
	var l []api.Item
	for _, s := range odd {
		l = append(l, api.Item{Path: s, Kind: -5, Mode: -1, Time: -1, Data: "kept"})
	}
	got := Sort(l)
	want := []string{"", "/", "//", "/a", "a", "a/", "a//b", "a\x00", "b", "\xff"}
	if !slices.Equal(paths(got), want) || got[0] != (api.Item{Kind: -5, Mode: -1, Time: -1, Data: "kept"}) {
		t.Errorf("of any: %q", paths(got))
	}
	if got := paths(Sort(slices.Concat(many(3000)[1500:], many(1500)))); !slices.Equal(got, paths(many(3000))) {
		t.Error("of more than a tree may have")
	}
}

// P13.1: the library's sort by lists of parts, with the places of items of one path.
func TestSortStable(t *testing.T) {
	r := dice()
	twice := 0
	for range 3000 {
		l := anyItems(r)
		want := slices.Clone(l)
		// Time is the place at which an item was handed in.
		sort.Slice(want, func(i, j int) bool {
			c := slices.Compare(strings.Split(want[i].Path, "/"), strings.Split(want[j].Path, "/"))
			return c < 0 || c == 0 && want[i].Time < want[j].Time
		})
		if got := Sort(l); !slices.Equal(got, want) {
			t.Fatalf("%v: %v, not %v", l, got, want)
		}
		for i := 1; i < len(want); i++ {
			if want[i].Path == want[i-1].Path {
				twice++
			}
		}
	}
	if twice < 1000 {
		t.Errorf("%d paths stood twice: too few to tell", twice)
	}
	var l []api.Item
	for i := range 1000 {
		l = append(l, api.Item{Path: string("ba"[i%2]), Time: i})
	}
	for i, x := range Sort(l) {
		if want := i%500*2 + 1 - i/500; x.Time != want {
			t.Fatalf("at %d: %d, not %d", i, x.Time, want)
		}
	}
}

// P13.1: each field at its bounds and beyond.
func TestCheckFields(t *testing.T) {
	form := func(ok bool) api.Errno {
		if ok {
			return api.OK
		}
		return api.ErrForm
	}
	for _, x := range []api.Item{dir("a"), file("a"), link("a")} {
		for _, n := range []int{math.MinInt, -1, 0, 1, 511, 512, 1 << 32, math.MaxInt} {
			y := x
			y.Mode = n
			checkErrno(t, fmt.Sprint("kind ", x.Kind, ", mode ", n), form(n >= 0 && n <= 511), y)
		}
		for _, n := range []int{math.MinInt, -1, 0, 1, 253402300799, 253402300800, math.MaxInt} {
			y := x
			y.Time = n
			checkErrno(t, fmt.Sprint("kind ", x.Kind, ", time ", n), form(n >= 0 && n <= 253402300799), y)
		}
	}
	for _, kind := range []int{math.MinInt, -1, 0, 4, 5, 257, math.MaxInt} {
		checkErrno(t, fmt.Sprint("kind ", kind), api.ErrKind, api.Item{Path: "a", Kind: kind})
	}
	for _, s := range []string{"", "/", "/a", "a/", "a//b", ".", "..", "a/..", "\xff", "a\x00", "\x7f", "a/b/c/d/e/f/g/h/i", strings.Repeat("a", 61)} {
		for _, x := range []api.Item{dir(s), file(s), link(s)} {
			checkErrno(t, fmt.Sprintf("path %q", s), api.ErrPath, x)
		}
	}
}

// P13.1: what each kind may have as data.
func TestCheckData(t *testing.T) {
	for _, c := range []struct {
		kind int
		data string
		want api.Errno
	}{
		{api.Dir, "", api.OK}, {api.Dir, "x", api.ErrForm}, {api.Dir, "\x00", api.ErrForm}, {api.Dir, strings.Repeat("x", 40000), api.ErrForm},
		{api.Link, "", api.ErrForm}, {api.Link, "x", api.OK}, {api.Link, "\xff/..//", api.OK}, {api.Link, "\x00", api.ErrForm}, {api.Link, "x\x00y", api.ErrForm},
		{api.Link, strings.Repeat("x", 200), api.OK}, {api.Link, strings.Repeat("x", 201), api.ErrForm}, {api.Link, strings.Repeat("x", 40000), api.ErrForm},
		{api.File, "", api.OK}, {api.File, "\x00", api.OK}, {api.File, strings.Repeat("x", 32768), api.OK}, {api.File, strings.Repeat("x", 32769), api.ErrBig}, {api.File, strings.Repeat("x", 1<<20), api.ErrBig},
	} {
		checkErrno(t, fmt.Sprint("kind ", c.kind, ", bytes ", len(c.data)), c.want, api.Item{Path: "a", Kind: c.kind, Data: c.data})
	}
}

// P13.1: the bound is of how many there are, and goes ahead of all else.
func TestCheckMany(t *testing.T) {
	checkErrno(t, "none", api.OK)
	checkErrno(t, "199", api.OK, many(199)...)
	checkErrno(t, "200", api.OK, many(200)...)
	checkErrno(t, "201", api.ErrBig, many(201)...)
	checkErrno(t, "5000", api.ErrBig, many(5000)...)
	checkErrno(t, "201 that aren't fit", api.ErrBig, make([]api.Item, 201)...)
	checkErrno(t, "200 that aren't fit", api.ErrKind, make([]api.Item, 200)...)
}

// faulty: an item for each error of one item, in their order.
func faulty() []api.Item {
	long := strings.Repeat("x", 32769)
	return []api.Item{
		{Path: "a/", Kind: 4, Mode: -1, Data: long},
		{Path: "a/", Kind: api.File, Mode: -1, Data: long},
		{Path: "q/b", Kind: api.File, Mode: -1, Data: long},
		{Path: "q/b", Kind: api.File, Data: long},
	}
}

// P13.1, K2: of one item the first error, in the document's order; of several the first item's, as they are handed in.
func TestCheckFirst(t *testing.T) {
	l := faulty()
	want := []api.Errno{api.ErrKind, api.ErrPath, api.ErrForm, api.ErrBig}
	for i, x := range l {
		checkErrno(t, fmt.Sprint("alone ", i), want[i], x)
		for j, y := range l {
			checkErrno(t, fmt.Sprint(i, " ahead of ", j), want[i], x, y)
			checkErrno(t, fmt.Sprint(i, " behind a fit one and ahead of ", j), want[i], file("z"), x, y)
		}
		// What is wrong with items beside each other comes behind.
		checkErrno(t, fmt.Sprint("behind one that stands twice ", i), want[i], dir("a"), dir("a"), x)
		checkErrno(t, fmt.Sprint("behind one in no folder ", i), want[i], dir("a/b"), x)
	}
	late := dir("z")
	late.Time = -1
	checkErrno(t, "not the first by paths", api.ErrForm, late, api.Item{Path: "a", Kind: 9})
	checkErrno(t, "not the first by paths", api.ErrKind, api.Item{Path: "z", Kind: 9}, api.Item{Path: "a", Kind: api.Link})
}

// P13.1: folders, and paths that stand twice.
func TestCheckTree(t *testing.T) {
	for _, c := range []struct {
		want api.Errno
		l    []api.Item
	}{
		{api.OK, tree()},
		{api.OK, []api.Item{file("a-b"), file("a/b/c"), dir("a/b"), dir("a")}},
		{api.OK, []api.Item{dir("a/b/c/d/e/f/g"), dir("a/b/c/d/e/f"), dir("a/b/c/d/e"), dir("a/b/c/d"), dir("a/b/c"), dir("a/b"), dir("a"), file("a/b/c/d/e/f/g/h")}},
		{api.ErrAbsent, []api.Item{dir("a"), file("a/b/c")}},
		{api.ErrAbsent, []api.Item{dir("a"), file("a/b"), file("a/b/c")}},
		{api.ErrAbsent, []api.Item{dir("a"), link("a/b"), file("a/b/c")}},
		{api.ErrAbsent, []api.Item{link("a"), dir("a/b")}},
		{api.ErrAbsent, []api.Item{dir("b"), file("a/b")}},
		{api.ErrAbsent, []api.Item{dir("aa"), file("a/b")}},
		{api.ErrAbsent, []api.Item{dir("a"), file("aa/b")}},
		{api.ErrAbsent, []api.Item{dir("A"), link("a/b")}},
		{api.ErrAbsent, []api.Item{dir("a"), dir("a/a"), dir("b/a")}},
		{api.ErrThere, []api.Item{dir("a"), dir("a")}},
		{api.ErrThere, []api.Item{dir("a"), file("a")}},
		{api.ErrThere, []api.Item{link("a"), file("a")}},
		{api.ErrThere, []api.Item{file("a"), file("b"), file("a")}},
		{api.ErrThere, []api.Item{dir("a"), file("a/b"), file("a/b"), file("b")}},
		// The first by rising paths.
		{api.ErrAbsent, []api.Item{file("b"), file("b"), file("a/b")}},
		{api.ErrThere, []api.Item{file("b/b"), file("a"), file("a")}},
		{api.ErrThere, []api.Item{file("a/b"), dir("a"), file("a")}},
		{api.ErrThere, []api.Item{file("a/b"), file("a"), link("a")}},
		{api.ErrAbsent, []api.Item{file("a/b"), file("a-"), file("a-")}},
		// Of one item.
		{api.ErrThere, []api.Item{file("a/b"), file("a/b")}},
		{api.ErrThere, []api.Item{file("a"), dir("a/b"), link("a/b")}},
	} {
		checkErrno(t, fmt.Sprint(paths(c.l)), c.want, c.l...)
		back := slices.Clone(c.l)
		slices.Reverse(back)
		checkErrno(t, fmt.Sprint(paths(back)), c.want, back...)
	}
}

// beside: the error of fit items beside each other by the document's words: path by path, rising.
func beside(l []api.Item) api.Errno {
	for _, x := range Sort(l) {
		same, folder := 0, !strings.Contains(x.Path, "/")
		for _, y := range l {
			if y.Path == x.Path {
				same++
			}
			if y.Kind == api.Dir && y.Path == path.Parent(x.Path) {
				folder = true
			}
		}
		if same > 1 {
			return api.ErrThere
		}
		if !folder {
			return api.ErrAbsent
		}
	}
	return api.OK
}

// P13.1: with dice, in any order.
func TestCheckDice(t *testing.T) {
	r := dice()
	seen := map[api.Errno]int{}
	for range 20000 {
		l := loose(r, 8)
		want := beside(l)
		if got := Check(l); got != want {
			t.Fatalf("%v: %d, not %d", l, got, want)
		}
		seen[want]++
		r.Shuffle(len(l), func(i, j int) { l[i], l[j] = l[j], l[i] })
		if got := Check(l); got != want {
			t.Fatalf("%v, shuffled: %d, not %d", l, got, want)
		}
	}
	for _, e := range []api.Errno{api.OK, api.ErrThere, api.ErrAbsent} {
		if seen[e] < 1000 {
			t.Errorf("%d answers %d: too few to tell", seen[e], e)
		}
	}
}

// P13.1: all of the items, by rising paths.
func TestWalk(t *testing.T) {
	l, e := Walk(tree())
	if e != api.OK || !slices.Equal(paths(l), treePaths()) {
		t.Errorf("%q, %d", paths(l), e)
	}
	for _, x := range tree() {
		if !slices.Contains(l, x) {
			t.Errorf("%v is wanting", x)
		}
	}
	if l, e := Walk(nil); e != api.OK || len(l) != 0 {
		t.Errorf("of none: %v, %d", l, e)
	}
}

// P13.2: a change of each field, and of none.
func TestDiffFields(t *testing.T) {
	from := []api.Item{{Path: "p", Kind: api.File, Mode: 1, Time: 2, Data: "x"}}
	checkDiff(t, from, from)
	checkDiff(t, nil, nil)
	checkDiff(t, from, nil, Change{"p", Removed})
	checkDiff(t, nil, from, Change{"p", Added})
	for _, to := range []api.Item{
		{Path: "p", Kind: api.Link, Mode: 1, Time: 2, Data: "x"},
		{Path: "p", Kind: api.File, Mode: 0, Time: 2, Data: "x"},
		{Path: "p", Kind: api.File, Mode: 1, Time: 3, Data: "x"},
		{Path: "p", Kind: api.File, Mode: 1, Time: 2, Data: "y"},
		{Path: "p", Kind: api.File, Mode: 1, Time: 2, Data: "xx"},
		{Path: "p", Kind: api.File, Mode: 1, Time: 2},
		{Path: "p", Kind: api.Dir},
	} {
		checkDiff(t, from, []api.Item{to}, Change{"p", Changed})
		checkDiff(t, []api.Item{to}, from, Change{"p", Changed})
	}
}

// P13.2: in the order of paths, whatever the order of the lists.
func TestDiffOrder(t *testing.T) {
	checkDiff(t, tree(), nil, Change{"a", 2}, Change{"a/b", 2}, Change{"a/d", 2}, Change{"a/d/e", 2}, Change{"a-b", 2}, Change{"é", 2})
	checkDiff(t, nil, tree(), Change{"a", 1}, Change{"a/b", 1}, Change{"a/d", 1}, Change{"a/d/e", 1}, Change{"a-b", 1}, Change{"é", 1})
	to := slices.Clone(tree())
	slices.Reverse(to)
	checkDiff(t, tree(), to)
	checkDiff(t, many(200), many(100), all(many(200)[100:], Removed)...)
	checkDiff(t, many(200)[:100], many(200)[100:], append(all(many(100), Removed), all(many(200)[100:], Added)...)...)
}

// P13.2: the error of the first list goes ahead of the second one's.
func TestDiffErrors(t *testing.T) {
	l := append(faulty(), file("a/b"))
	want := []api.Errno{api.ErrKind, api.ErrPath, api.ErrForm, api.ErrBig, api.ErrAbsent}
	for i, x := range l {
		for _, y := range l {
			got, e := Diff([]api.Item{file("a"), x}, []api.Item{y})
			if e != want[i] || len(got) != 0 {
				t.Errorf("%v and %v: %v, %d", x, y, got, e)
			}
		}
	}
	if _, e := Diff(many(201), []api.Item{{}}); e != api.ErrBig {
		t.Errorf("too many, and no kind: %d", e)
	}
	if _, e := Diff([]api.Item{{}}, many(201)); e != api.ErrKind {
		t.Errorf("no kind, and too many: %d", e)
	}
}

// P13.2: with dice, each path of either by itself.
func TestDiffDice(t *testing.T) {
	r := dice()
	seen := map[int]int{}
	for range 5000 {
		from, to := whole(r), whole(r)
		if r.IntN(2) == 0 {
			to = slices.Clone(from)
			for i := range to {
				to[i].Mode ^= r.IntN(2)
			}
		}
		both := slices.Concat(from, to)
		slices.SortFunc(both, func(a, b api.Item) int { return path.Compare(a.Path, b.Path) })
		var want []Change
		for _, s := range slices.Compact(paths(both)) {
			at := func(x api.Item) bool { return x.Path == s }
			i, j := slices.IndexFunc(from, at), slices.IndexFunc(to, at)
			switch {
			case i < 0:
				want = append(want, Change{s, 1})
			case j < 0:
				want = append(want, Change{s, 2})
			case from[i] != to[j]:
				want = append(want, Change{s, 3})
			}
		}
		checkDiff(t, from, to, want...)
		for _, c := range want {
			seen[c.What]++
		}
	}
	for what := 1; what <= 3; what++ {
		if seen[what] < 1000 {
			t.Errorf("%d changes %d: too few to tell", seen[what], what)
		}
	}
}

func checkUnder(t *testing.T, l []api.Item, at string, want ...string) {
	t.Helper()
	if got := paths(Under(l, at)); !slices.Equal(got, want) {
		t.Errorf("Under(%q, %q): %q, not %q", paths(l), at, got, want)
	}
}

// P13.3
func TestUnder(t *testing.T) {
	checkUnder(t, tree(), "a", "a/b", "a", "a/d/e", "a/d")
	checkUnder(t, tree(), "a/d", "a/d/e", "a/d")
	checkUnder(t, tree(), "a/d/e", "a/d/e")
	checkUnder(t, tree(), "a/")
	checkUnder(t, tree(), "A")
	checkUnder(t, tree(), "a-")
	checkUnder(t, tree(), "a/d/e/f")
	checkUnder(t, tree(), "")
	checkUnder(t, nil, "a")
	checkUnder(t, []api.Item{file("a/b"), file("ab"), file("a"), file("a-b/a"), file("b/a"), file("b/a/c"), file("a/b")}, "a", "a/b", "a", "a/b")
	for i, x := range Under(tree(), "a") {
		if want := []api.Item{tree()[1], tree()[3], tree()[4], tree()[5]}; x != want[i] {
			t.Errorf("at %d: %v", i, x)
		}
	}
}

// P13.3: of any list, also of what isn't fit; nothing is at or in the empty path.
func TestUnderAny(t *testing.T) {
	var l []api.Item
	for _, s := range []string{"", "/", "/a", "//", "//a", "a", "a/", "a//", "a//b", "/a/b", "\xff", "\xff/"} {
		l = append(l, api.Item{Path: s, Kind: 77, Mode: -1})
	}
	checkUnder(t, l, "")
	checkUnder(t, l, "/", "/", "//", "//a")
	checkUnder(t, l, "/a", "/a", "/a/b")
	checkUnder(t, l, "//", "//")
	checkUnder(t, l, "a", "a", "a/", "a//", "a//b")
	checkUnder(t, l, "a/", "a/", "a//", "a//b")
	checkUnder(t, l, "a//", "a//")
	checkUnder(t, l, "\xff", "\xff", "\xff/")
	checkUnder(t, many(5000), "4999", "4999")
	r := dice()
	for range 3000 {
		l := anyItems(r)
		for _, x := range append(anyItems(r), l...) {
			var want []api.Item
			for _, y := range l {
				// The way up, folder by folder, ends at the empty path.
				up := y.Path
				for up != "" && up != x.Path {
					up = path.Parent(up)
				}
				if up != "" {
					want = append(want, y)
				}
			}
			if got := Under(l, x.Path); !slices.Equal(got, want) {
				t.Fatalf("Under(%v, %q): %v, not %v", l, x.Path, got, want)
			}
		}
	}
}

// P13.3: files alone count, fit or not.
func TestSize(t *testing.T) {
	for _, c := range []struct {
		want int
		l    []api.Item
	}{
		{0, nil},
		{7, tree()},
		{0, []api.Item{{Path: "a", Kind: api.Dir, Data: "xx"}, {Path: "b", Kind: api.Link, Data: "xx"}, {Data: "xx"}, {Kind: 4, Data: "xx"}, {Kind: -2, Data: "xx"}}},
		{4, []api.Item{{Kind: api.File, Data: "é"}, {Kind: api.File, Mode: -1, Data: "\x00\x00"}, {Path: "a/b", Kind: api.File}}},
		{40000, []api.Item{{Kind: api.File, Data: strings.Repeat("x", 40000)}}},
		{5000, slices.Repeat([]api.Item{{Kind: api.File, Data: "x"}}, 5000)},
	} {
		if got := Size(c.l); got != c.want {
			t.Errorf("%d items: %d, not %d", len(c.l), got, c.want)
		}
	}
}

// P13.4: lists that are handed in, and the room behind them, stay as they were.
func TestUnchanged(t *testing.T) {
	room := append(tree(), file("z"), file("y"))
	other := append(slices.Clone(tree()[2:4]), file("x"), file("w"))
	kept, keptOther := slices.Clone(room), slices.Clone(other)
	l, m := room[:6], other[:2]
	for range 2 {
		Sort(l)
		Check(l)
		Walk(l)
		Diff(l, m)
		Diff(m, l)
		Under(l, "a")
		Size(l)
	}
	if !slices.Equal(room, kept) || !slices.Equal(other, keptOther) {
		t.Errorf("%v and %v", room, other)
	}
}

// P13.4: answers share nothing with what was handed in, nor with other answers.
func TestNewMemory(t *testing.T) {
	// In its order, and with all of it under one path, so that nothing needs to be moved.
	sorted := []api.Item{dir("a"), file("a/b"), file("a/c")}
	l := slices.Clone(sorted)
	walked := func() []api.Item {
		out, _ := Walk(l)
		return out
	}
	for i, ask := range []func() []api.Item{func() []api.Item { return Sort(l) }, walked, func() []api.Item { return Under(l, "a") }} {
		one, two := ask(), ask()
		if !slices.Equal(one, sorted) {
			t.Fatalf("%d: %v", i, one)
		}
		_ = append(one, api.Item{Path: "behind"})
		clear(one)
		if !slices.Equal(l, sorted) || !slices.Equal(two, sorted) {
			t.Errorf("%d: an answer shares its memory", i)
		}
		clear(l)
		if !slices.Equal(two, sorted) {
			t.Errorf("%d: an answer follows what was handed in", i)
		}
		copy(l, sorted)
	}
	one, _ := Diff(l, nil)
	two, _ := Diff(l, nil)
	clear(one)
	if len(two) != 3 || two[0] != (Change{"a", Removed}) {
		t.Error("Diff: an answer shares its memory")
	}
}
