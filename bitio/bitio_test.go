package bitio

import (
	"math"
	"math/rand/v2"
	"testing"

	"cellarer/api"
)

// dice: the same numbers in every run.
func dice() *rand.Rand {
	return rand.New(rand.NewPCG(5, 6))
}

func randomText(r *rand.Rand, n int) string {
	out := make([]byte, n)
	for i := range out {
		out[i] = byte(r.Uint32())
	}
	return string(out)
}

// bitOf: bit i of a text, as the document counts them.
func bitOf(s string, i int) uint32 {
	if i/8 >= len(s) {
		return 0
	}
	return uint32(s[i/8]) / (1 << (i % 8)) % 2
}

// number: n bits of a text from a place on, the first one the lowest; turned: the highest.
func number(s string, place, n int, turned bool) uint32 {
	var out uint32
	for i := range n {
		bit := i
		if turned {
			bit = n - 1 - i
		}
		out += bitOf(s, place+i) << bit
	}
	return out
}

// clamped: what n stands for.
func clamped(n, top int) int {
	switch {
	case n < 0:
		return 0
	case n > top:
		return top
	}
	return n
}

// P3.1: the document's example.
func TestSourceExample(t *testing.T) {
	x := Of("\xd2\x01")
	if x.Place() != 0 || x.Short() {
		t.Errorf("at the beginning: %d, %v", x.Place(), x.Short())
	}
	if a, b := x.Take(4), x.Turned(4); a != 2 || b != 0xb || x.Short() || x.Place() != 8 {
		t.Errorf("taken: %x, %x; %d, %v", a, b, x.Place(), x.Short())
	}
	if a, b := x.Take(8), x.Short(); a != 1 || b {
		t.Errorf("the last byte: %x, %v", a, b)
	}
	if a := x.Take(9); a != 0 || x.Place() != 25 || !x.Short() {
		t.Errorf("behind the end: %x; %d, %v", a, x.Place(), x.Short())
	}
}

// P3.1: Take and Turned, of every number of bits from every place on, the end and what is behind it among them.
func TestTake(t *testing.T) {
	s := randomText(dice(), 6)
	for place := range 8*len(s) + 20 {
		for _, n := range []int{math.MinInt, -33, -1, 0, 1, 2, 7, 8, 9, 15, 16, 17, 24, 25, 31, 32, 33, 64, 65, math.MaxInt} {
			for _, turned := range []bool{false, true} {
				x := Of(s)
				for range place {
					x.Take(1)
				}
				take := x.Take
				if turned {
					take = x.Turned
				}
				bits := clamped(n, 32)
				if got, want := take(n), number(s, place, bits, turned); got != want {
					t.Fatalf("%d bits at %d, turned %v: %x, not %x", n, place, turned, got, want)
				}
				if x.Place() != place+bits || x.Short() != (place+bits > 8*len(s)) {
					t.Fatalf("%d bits at %d, turned %v: %d, %v", n, place, turned, x.Place(), x.Short())
				}
			}
		}
	}
}

// P3.1: Short is told by the first bit that isn't there, and by no earlier one.
func TestShort(t *testing.T) {
	for _, s := range []string{"", "a", "ab"} {
		x := Of(s)
		for range 8 * len(s) {
			x.Take(1)
			if x.Short() {
				t.Fatalf("%q, bit %d: Short", s, x.Place())
			}
		}
		x.Take(0)
		x.Turned(0)
		x.Even()
		if x.Text(0) != "" || x.Short() || x.Place() != 8*len(s) {
			t.Errorf("%q, at the end: %d, %v", s, x.Place(), x.Short())
		}
		if x.Take(1) != 0 || !x.Short() || x.Place() != 8*len(s)+1 {
			t.Errorf("%q, behind the end: %d, %v", s, x.Place(), x.Short())
		}
	}
}

// P3.1: Even goes on to the next whole byte, behind the end too.
func TestSourceEven(t *testing.T) {
	for place := range 40 {
		x := Of("abc")
		for range place {
			x.Take(1)
		}
		want := place
		for want%8 != 0 {
			want++
		}
		x.Even()
		if x.Place() != want || x.Short() != (want > 24) {
			t.Errorf("Even at %d: %d, %v", place, x.Place(), x.Short())
		}
		x.Even()
		if x.Place() != want {
			t.Errorf("Even twice at %d: %d", place, x.Place())
		}
	}
}

// P3.1: Text, from every place on.
func TestSourceText(t *testing.T) {
	s := randomText(dice(), 5)
	for place := range 60 {
		for _, n := range []int{math.MinInt, -1, 0, 1, 2, 4, 5, 6, 33, 100} {
			x := Of(s)
			for range place {
				x.Take(1)
			}
			want := ""
			first, bytes := (place+7)/8, clamped(n, api.MaxOut)
			for i := first; i < first+bytes && i < len(s); i++ {
				want += s[i : i+1]
			}
			if got := x.Text(n); got != want {
				t.Fatalf("Text(%d) at %d: %x, not %x", n, place, got, want)
			}
			if x.Place() != 8*(first+bytes) || x.Short() != (first+bytes > len(s)) {
				t.Fatalf("Text(%d) at %d: %d, %v", n, place, x.Place(), x.Short())
			}
		}
	}
}

// P3.1: MaxOut bytes at once are the most.
func TestSourceTextOfMany(t *testing.T) {
	s := randomText(dice(), api.MaxOut+10)
	for _, n := range []int{api.MaxOut - 1, api.MaxOut, api.MaxOut + 1, 1 << 40, math.MaxInt} {
		x := Of(s)
		want := clamped(n, api.MaxOut)
		if got := x.Text(n); got != s[:want] || x.Place() != 8*want || x.Short() {
			t.Errorf("Text(%d): %d bytes, %d, %v", n, len(got), x.Place(), x.Short())
		}
		if got := x.Text(9); got != s[want:want+9] {
			t.Errorf("behind Text(%d): %x", n, got)
		}
	}
	x := Of("abc")
	x.Take(1)
	if got := x.Text(math.MaxInt); got != "bc" || x.Place() != 8*(1+api.MaxOut) || !x.Short() {
		t.Errorf("more than there is: %q, %d", got, x.Place())
	}
	if x.Text(1) != "" || x.Take(32) != 0 || x.Turned(32) != 0 || x.Place() != 8*(2+api.MaxOut)+64 {
		t.Errorf("far behind the end: %d", x.Place())
	}
}

// P3.1, K3: two sources of one text, and a copy of one, go their own ways.
func TestSourcesApart(t *testing.T) {
	x, y := Of("abc"), Of("abc")
	x.Take(8)
	z := *x
	x.Take(8)
	if y.Place() != 0 || y.Take(8) != 'a' || z.Take(8) != 'b' || x.Take(8) != 'c' {
		t.Error("sources aren't apart")
	}
}

// P3.2: the document's example, and the zero Sink.
func TestSinkExample(t *testing.T) {
	var w Sink
	if w.Count() != 0 || w.All() != "" {
		t.Errorf("the zero Sink: %d, %x", w.Count(), w.All())
	}
	w.Put(5, 3)
	w.Turn(1, 2)
	w.Even()
	w.Text("a")
	if w.Count() != 16 || w.All() != "\x15\x61" {
		t.Errorf("All: %d, %x", w.Count(), w.All())
	}
}

// P3.2: every number of bits behind every number of bits; nothing of x above them shows.
func TestPut(t *testing.T) {
	r := dice()
	for ahead := range 33 {
		for _, n := range []int{math.MinInt, -33, -1, 0, 1, 2, 7, 8, 9, 15, 16, 17, 31, 32, 33, 64, math.MaxInt} {
			for _, x := range []uint32{0, 1, 0x80000000, math.MaxUint32, r.Uint32()} {
				for _, turn := range []bool{false, true} {
					var w Sink
					w.Put(math.MaxUint32, ahead)
					put := w.Put
					if turn {
						put = w.Turn
					}
					put(x, n)
					bits := clamped(n, 32)
					low := uint32(uint64(x) % (1 << bits))
					got := number(w.All(), ahead, bits, turn)
					if got != low || w.Count() != ahead+bits || len(w.All()) != (ahead+bits+7)/8 {
						t.Fatalf("%x in %d bits behind %d, turn %v: %x, %d bits", x, n, ahead, turn, got, w.Count())
					}
					if number(w.All(), 0, ahead, false) != uint32(uint64(1)<<ahead-1) || number(w.All(), ahead+bits, 16, false) != 0 {
						t.Fatalf("%x in %d bits behind %d, turn %v: ahead or behind: %x", x, n, ahead, turn, w.All())
					}
				}
			}
		}
	}
}

// P3.2: Even and Text begin at a whole byte, and noughts go ahead of it.
func TestSinkEvenAndText(t *testing.T) {
	for bits := range 25 {
		var w Sink
		w.Put(math.MaxUint32, bits)
		ahead := w.All()
		w.Even()
		if w.All() != ahead || w.Count() != 8*len(ahead) {
			t.Errorf("Even behind %d bits: %x, %d", bits, w.All(), w.Count())
		}
		w.Even()
		if w.All() != ahead || w.Count() != 8*len(ahead) {
			t.Errorf("Even twice behind %d bits: %x, %d", bits, w.All(), w.Count())
		}
		var v Sink
		v.Put(math.MaxUint32, bits)
		v.Text("\x00\xff\x80b")
		v.Put(1, 1)
		if want := ahead + "\x00\xff\x80b\x01"; v.All() != want || v.Count() != 8*len(want)-7 {
			t.Errorf("Text behind %d bits: %x, %d", bits, v.All(), v.Count())
		}
		var u Sink
		u.Put(math.MaxUint32, bits)
		u.Text("")
		if u.All() != ahead || u.Count() != 8*len(ahead) {
			t.Errorf("an empty Text behind %d bits: %x, %d", bits, u.All(), u.Count())
		}
	}
}

// P3.2: All changes nothing, at every count of bits; more may be put.
func TestAllAndOn(t *testing.T) {
	s := randomText(dice(), 200)
	var w Sink
	for i := range 8 * len(s) {
		w.Put(bitOf(s, i), 1)
		want := []byte(s[:i/8+1])
		want[i/8] &= byte(1<<(i%8+1) - 1)
		first, second := w.All(), w.All()
		if first != string(want) || second != first || w.Count() != i+1 {
			t.Fatalf("%d bits: %x, %x, not %x", i+1, first, second, want)
		}
	}
}

// P3.2: long texts, at once and with others behind them.
func TestSinkOfLongTexts(t *testing.T) {
	r := dice()
	for _, n := range []int{63, 64, 65, 127, 128, 129, 4096, api.MaxOut, api.MaxOut + 1, 300000} {
		s := randomText(r, n)
		var w Sink
		w.Text(s)
		if w.All() != s || w.Count() != 8*n {
			t.Errorf("a text of %d bytes isn't there", n)
		}
		w.Put(1, 1)
		w.Text(s)
		if w.All() != s+"\x01"+s {
			t.Errorf("two texts of %d bytes aren't there", n)
		}
	}
}

// P3.2, K4: a copy goes its own way, wherever it is taken.
func TestSinkCopies(t *testing.T) {
	s := randomText(dice(), 150)
	for n := range len(s) {
		var w Sink
		w.Text(s[:n])
		w.Put(1, n%8)
		ahead := w.All()
		copied, kept := w, w
		w.Text("this" + s)
		copied.Text("other" + s)
		if w.All() != ahead+"this"+s || copied.All() != ahead+"other"+s || kept.All() != ahead {
			t.Fatalf("copies behind %d bytes: %x, %x, %x", n, w.All(), copied.All(), kept.All())
		}
	}
}

// call is one of the calls of a Sink and the call of a Source that takes it again.
type call struct {
	kind string
	x    uint32
	n    int
	text string
}

func randomCalls(r *rand.Rand, n int) []call {
	var out []call
	for range n {
		c := call{kind: []string{"put", "put", "turn", "turn", "even", "text"}[r.IntN(6)], x: r.Uint32(), n: r.IntN(40) - 4}
		if c.kind == "text" {
			c.text = randomText(r, r.IntN(90))
		}
		out = append(out, c)
	}
	return out
}

func putAll(calls []call) *Sink {
	var w Sink
	for _, c := range calls {
		switch c.kind {
		case "put":
			w.Put(c.x, c.n)
		case "turn":
			w.Turn(c.x, c.n)
		case "even":
			w.Even()
		case "text":
			w.Text(c.text)
		}
	}
	return &w
}

// P3.3: what was put is taken again, by the same calls in the same order.
func TestPutAndTaken(t *testing.T) {
	r := dice()
	for range 400 {
		calls := randomCalls(r, 1+r.IntN(60))
		w := putAll(calls)
		s := w.All()
		if again := putAll(calls).All(); again != s {
			t.Fatalf("the same calls: %x, then %x", s, again)
		}
		x := Of(s)
		for i, c := range calls {
			low := uint32(uint64(c.x) % (1 << clamped(c.n, 32)))
			switch c.kind {
			case "put":
				if got := x.Take(c.n); got != low {
					t.Fatalf("call %d, Take(%d): %x, not %x", i, c.n, got, low)
				}
			case "turn":
				if got := x.Turned(c.n); got != low {
					t.Fatalf("call %d, Turned(%d): %x, not %x", i, c.n, got, low)
				}
			case "even":
				x.Even()
			case "text":
				if got := x.Text(len(c.text)); got != c.text {
					t.Fatalf("call %d, Text(%d): %x, not %x", i, len(c.text), got, c.text)
				}
			}
		}
		if x.Place() != w.Count() || x.Short() {
			t.Fatalf("taken: %d of %d bits, %v", x.Place(), w.Count(), x.Short())
		}
		if rest := x.Take(7); rest != 0 {
			t.Fatalf("behind the last bit: %x", rest)
		}
	}
}

// P3.3: what is put with one hand and taken with the other is turned about.
func TestTurnedAbout(t *testing.T) {
	var w Sink
	w.Put(0b0011, 4)
	w.Turn(0b0011, 4)
	w.Put(0x12345678, 32)
	x := Of(w.All())
	if a, b, c := x.Turned(4), x.Take(4), x.Turned(32); a != 0b1100 || b != 0b1100 || c != 0x1e6a2c48 {
		t.Errorf("turned: %b, %b, %x", a, b, c)
	}
}

// K7: no argument makes a call panic, at whatever place; places and counts go on as they should.
func TestAnyArguments(t *testing.T) {
	x := Of("\xff\xff\xff")
	var w Sink
	taken, put := 0, 0
	for _, n := range []int{math.MinInt, math.MinInt32, -1, 0, 1, 32, 33, api.MaxOut, math.MaxInt32, math.MaxInt} {
		x.Take(n)
		x.Turned(n)
		x.Text(n)
		w.Put(math.MaxUint32, n)
		w.Turn(math.MaxUint32, n)
		w.Even()
		bytes := (2*clamped(n, 32) + 7) / 8
		taken += 8 * (bytes + clamped(n, api.MaxOut))
		put += 8 * bytes
		if x.Place() != taken || w.Count() != put || len(w.All()) != put/8 {
			t.Errorf("behind the calls with %d: %d taken, not %d; %d put, not %d", n, x.Place(), taken, w.Count(), put)
		}
	}
}
