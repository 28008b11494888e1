package poly

import (
	"math"
	"math/rand/v2"
	"slices"
	"strings"
	"testing"

	"cellarer/api"
)

// Primes: of the greatest degree that is fit, and of one more.
const (
	prime62 = P(1<<62 | 1<<29 | 1)
	prime63 = P(1<<63 | 1<<1 | 1)
	prime53 = P(0x3da3358b4dc173)
)

// dice: the same numbers in every run.
func dice() *rand.Rand {
	return rand.New(rand.NewPCG(9, 10))
}

// ofDegree: some polynomial of degree d.
func ofDegree(r *rand.Rand, d int) P {
	return P(1)<<d | P(r.Uint64())&(P(1)<<d-1)
}

// some: a polynomial of some degree, nought among them.
func some(r *rand.Rand) P {
	d := r.IntN(65)
	if d == 64 {
		return 0
	}
	return ofDegree(r, d)
}

// someFit: one to divide by.
func someFit(r *rand.Rand) P {
	return ofDegree(r, 1+r.IntN(62))
}

// unfit: what can't be divided by.
func unfit() []P {
	return []P{0, 1, 1 << 63, 1<<63 | 1, prime63, math.MaxUint64}
}

// edges: polynomials at the ends of what there is.
func edges() []P {
	return []P{0, 1, 2, 3, 0x7f, 0x80, 0xff, 0x100, prime53, 1 << 61, 1<<62 - 1, 1 << 62, prime62, 1<<63 - 1, 1 << 63, prime63, math.MaxUint64}
}

// coefs are a polynomial of any degree, as it is written by hand: at i the coefficient of x^i, the last one 1.
type coefs []int

func trim(a coefs) coefs {
	for len(a) > 0 && a[len(a)-1] == 0 {
		a = a[:len(a)-1]
	}
	return a
}

func spread(p P) coefs {
	var out coefs
	for i := range 64 {
		out = append(out, int(p>>i&1))
	}
	return trim(out)
}

func gather(a coefs) P {
	var out P
	for i, c := range a {
		out += P(c) << i
	}
	return out
}

// spreadText: the bytes behind one another, the highest bit of each first.
func spreadText(s string) coefs {
	var out coefs
	for i := range len(s) {
		for bit := 7; bit >= 0; bit-- {
			out = append(out, int(s[i]>>bit)%2)
		}
	}
	slices.Reverse(out)
	return trim(out)
}

func product(a, b coefs) coefs {
	out := make(coefs, len(a)+len(b))
	for i := range a {
		for j := range b {
			out[i+j] = (out[i+j] + a[i]*b[j]) % 2
		}
	}
	return trim(out)
}

// divided: the rest, as it is worked out by hand.
func divided(a, m coefs) coefs {
	a = slices.Clone(a)
	for top := len(a) - 1; top >= len(m)-1; top-- {
		if a[top] == 0 {
			continue
		}
		for i := range m {
			a[top-i] = (a[top-i] + m[len(m)-1-i]) % 2
		}
	}
	return trim(a)
}

// byHand: the rest of a product.
func byHand(p, q, m P) P {
	return gather(divided(product(spread(p), spread(q)), spread(m)))
}

func divides(d, p P) bool {
	return len(divided(spread(p), spread(d))) == 0
}

func checkRest(t *testing.T, what string, got P, e api.Errno, want P) {
	t.Helper()
	if got != want || e != api.OK {
		t.Fatalf("%s: %x, %d, not %x", what, uint64(got), e, uint64(want))
	}
}

// P9.1 to P9.3: the document's examples.
func TestExamples(t *testing.T) {
	if d := P(0x13).Degree(); d != 4 {
		t.Errorf("Degree: %d", d)
	}
	r, e := P(0x13).Mod(7)
	checkRest(t, "Mod", r, e, 1)
	r, e = P(2).Times(2, 7)
	checkRest(t, "Times", r, e, 3)
	r, e = P(2).Power(3, 7)
	checkRest(t, "Power", r, e, 1)
	r, e = Of("a", 0x11b)
	checkRest(t, "Of a", r, e, 0x61)
	r, e = Of("ab", 0x11b)
	want, _ := P(0x6162).Mod(0x11b)
	checkRest(t, "Of ab", r, e, want)
	for _, p := range []P{7, 0xb, 0x13, 0x11b, 0x3da3358b4dc173} {
		if !p.Prime() {
			t.Errorf("Prime of %x: false", uint64(p))
		}
	}
	for _, p := range []P{5, 9, 0, 1} {
		if p.Prime() {
			t.Errorf("Prime of %x: true", uint64(p))
		}
	}
}

// P9.1: every degree, with no other coefficient and with all of them.
func TestDegree(t *testing.T) {
	if d := P(0).Degree(); d != -1 {
		t.Errorf("of 0: %d", d)
	}
	for i := range 64 {
		one, all := P(1)<<i, P(math.MaxUint64)>>(63-i)
		if one.Degree() != i || all.Degree() != i {
			t.Errorf("of x^%d: %d, with all below it %d", i, one.Degree(), all.Degree())
		}
	}
}

// P9.1
func TestAdd(t *testing.T) {
	for _, c := range [][3]P{{0, 0, 0}, {0, 5, 5}, {5, 0, 5}, {5, 5, 0}, {1, 1, 0}, {6, 3, 5}, {0xff, 0x0f, 0xf0}, {math.MaxUint64, 1 << 63, 1<<63 - 1}, {1 << 63, 1, 1<<63 | 1}} {
		if got := c[0].Add(c[1]); got != c[2] {
			t.Errorf("%x and %x: %x", uint64(c[0]), uint64(c[1]), uint64(got))
		}
	}
	r := dice()
	for range 1000 {
		p, q := some(r), some(r)
		sum := p.Add(q)
		for i := range 64 {
			if sum>>i&1 != (p>>i&1+q>>i&1)%2 {
				t.Fatalf("%x and %x: %x", uint64(p), uint64(q), uint64(sum))
			}
		}
	}
}

// P9.1: all small ones: of those of a smaller degree just one differs by a multiple, and that is the rest.
func TestModSmall(t *testing.T) {
	for m := P(2); m < 32; m++ {
		for p := range P(256) {
			got, e := p.Mod(m)
			if e != api.OK || got.Degree() >= m.Degree() || !divides(m, p^got) {
				t.Fatalf("%x by %x: %x, %d", p, m, got, e)
			}
		}
	}
}

// P9.1: all edges, and dice.
func TestMod(t *testing.T) {
	for _, p := range edges() {
		for _, m := range edges() {
			if d := m.Degree(); d >= 1 && d <= 62 {
				got, e := p.Mod(m)
				checkRest(t, "Mod", got, e, byHand(p, 1, m))
			}
		}
	}
	r := dice()
	for range 5000 {
		p, m := some(r), someFit(r)
		got, e := p.Mod(m)
		checkRest(t, "Mod", got, e, byHand(p, 1, m))
	}
}

// P9.1, P9.2, K2: by what isn't fit: ErrArg and 0, whatever else is handed in.
func TestUnfit(t *testing.T) {
	check := func(what string, m, got P, e api.Errno) {
		t.Helper()
		if got != 0 || e != api.ErrArg {
			t.Errorf("%s by %x: %x, %d", what, uint64(m), uint64(got), e)
		}
	}
	for _, m := range unfit() {
		for _, p := range edges() {
			got, e := p.Mod(m)
			check("Mod", m, got, e)
			got, e = p.Times(3, m)
			check("Times", m, got, e)
			got, e = P(3).Times(p, m)
			check("Times", m, got, e)
			for _, n := range []uint64{0, 1, 2, math.MaxUint64} {
				got, e = p.Power(n, m)
				check("Power", m, got, e)
			}
			got, e = p.Append('a', m)
			check("Append", m, got, e)
		}
		for _, s := range []string{"", "\x00", "a", "abcdefghijkl"} {
			got, e := Of(s, m)
			check("Of", m, got, e)
		}
	}
}

// P9.1, P9.2: the first and the last that are fit.
func TestFit(t *testing.T) {
	for _, m := range []P{2, 3, 4, 1 << 62, 1<<63 - 1, prime62} {
		_, e1 := P(5).Mod(m)
		_, e2 := P(5).Times(6, m)
		_, e3 := P(5).Power(6, m)
		_, e4 := P(5).Append(6, m)
		_, e5 := Of("a", m)
		if e1 != api.OK || e2 != api.OK || e3 != api.OK || e4 != api.OK || e5 != api.OK {
			t.Errorf("by %x: %d, %d, %d, %d, %d", uint64(m), e1, e2, e3, e4, e5)
		}
	}
}

// P9.2: all small ones, all edges, and dice: arguments needn't be rests.
func TestTimes(t *testing.T) {
	check := func(p, q, m P) {
		t.Helper()
		got, e := p.Times(q, m)
		checkRest(t, "Times", got, e, byHand(p, q, m))
	}
	for p := range P(32) {
		for q := range P(32) {
			for m := P(2); m < 16; m++ {
				check(p, q, m)
			}
		}
	}
	for _, p := range edges() {
		for _, q := range edges() {
			for _, m := range []P{2, 3, 7, 0x11b, prime53, 1 << 62, prime62, 1<<63 - 1} {
				check(p, q, m)
			}
		}
	}
	r := dice()
	for range 5000 {
		check(some(r), some(r), someFit(r))
	}
}

// P9.2: n products in turn.
func TestPower(t *testing.T) {
	r := dice()
	for range 200 {
		p, m := some(r), someFit(r)
		want := P(1)
		for n := range uint64(70) {
			got, e := p.Power(n, m)
			checkRest(t, "Power", got, e, want)
			want = byHand(want, p, m)
		}
	}
}

// P9.2: of 0: of 1, also nought's; nought's and one's other powers.
func TestPowerEdges(t *testing.T) {
	for _, m := range []P{2, 3, 7, 0x11b, prime62, 1<<63 - 1} {
		for _, p := range edges() {
			got, e := p.Power(0, m)
			checkRest(t, "of 0", got, e, 1)
			got, e = p.Power(1, m)
			checkRest(t, "of 1", got, e, byHand(p, 1, m))
		}
		for _, n := range []uint64{1, 2, 3, 1 << 63, math.MaxUint64} {
			got, e := P(0).Power(n, m)
			checkRest(t, "nought's", got, e, 0)
			got, e = m.Power(n, m)
			checkRest(t, "a multiple's", got, e, 0)
			got, e = P(1).Power(n, m)
			checkRest(t, "one's", got, e, 1)
		}
	}
}

// P9.2: great powers: by a prime of degree d everything but nought is 1 to the power of 2^d - 1.
func TestPowerGreat(t *testing.T) {
	r := dice()
	for _, m := range []P{2, 3, 7, 0xb, 0x13, 0x11b, prime53, prime62} {
		for range 50 {
			p := ofDegree(r, r.IntN(m.Degree()))
			all := uint64(1)<<m.Degree() - 1
			if byHand(p, 1, m) == 0 {
				continue
			}
			got, e := p.Power(all, m)
			checkRest(t, "Power", got, e, 1)
			got, e = p.Power(all+1, m)
			checkRest(t, "Power and one", got, e, p)
			rest := math.MaxUint64 % all
			want, _ := p.Power(rest, m)
			got, e = p.Power(math.MaxUint64, m)
			checkRest(t, "the greatest power", got, e, want)
		}
	}
}

// P9.2: every byte, by all degrees: those of fewer than eight, and those that leave no room for eight bits more.
func TestAppend(t *testing.T) {
	r := dice()
	for d := 1; d <= 62; d++ {
		for c := range 256 {
			p, m := some(r), ofDegree(r, d)
			got, e := p.Append(byte(c), m)
			checkRest(t, "Append", got, e, byHand(p, 0x100, m)^byHand(P(c), 1, m))
		}
	}
	for _, p := range edges() {
		for _, m := range []P{2, 3, 7, 0xff, 0x100, 0x1ff, 1 << 62, prime62, 1<<63 - 1} {
			for _, c := range []byte{0, 1, 0x80, 0xff} {
				got, e := p.Append(c, m)
				checkRest(t, "Append", got, e, byHand(p, 0x100, m)^byHand(P(c), 1, m))
			}
		}
	}
}

// P9.2: the text's polynomial as a whole, and its bytes appended in turn.
func TestOf(t *testing.T) {
	r := dice()
	for n := range 60 {
		for range 20 {
			text := make([]byte, n)
			for i := range text {
				text[i] = byte(r.Uint32())
			}
			s, m := string(text), someFit(r)
			got, e := Of(s, m)
			checkRest(t, "Of", got, e, gather(divided(spreadText(s), spread(m))))
			var turn P
			for _, c := range text {
				turn, _ = turn.Append(c, m)
			}
			checkRest(t, "in turn", got, e, turn)
		}
	}
}

// P9.2: the empty text, bytes that are nought, ahead of others and behind them, and runes that are two bytes.
func TestOfEdges(t *testing.T) {
	for s, want := range map[string]P{
		"": 0, "\x00": 0, "\x00\x00\x00": 0, "\x01": 1, "\xff": 0xff, "\x00a": 'a', "a\x00": 0x6100, "é": 0xc3a9,
		strings.Repeat("\x00", 100) + "ab": 0x6162, "\x3f\xff\xff\xff\xff\xff\xff\xff": 1<<62 - 1, "\x40\x00\x00\x00\x20\x00\x00\x01": 0,
	} {
		got, e := Of(s, prime62)
		checkRest(t, s, got, e, want)
	}
}

// greatest: of all that divide both the one of the greatest degree, as the document says it.
func greatest(p, q P) P {
	for d := max(p, q); d > 0; d-- {
		if divides(d, p) && divides(d, q) {
			return d
		}
	}
	return 0
}

// P9.3: all small ones.
func TestCommonSmall(t *testing.T) {
	for p := range P(48) {
		for q := range P(48) {
			if got := p.Common(q); got != greatest(p, q) {
				t.Fatalf("of %x and %x: %x, not %x", p, q, got, greatest(p, q))
			}
		}
	}
}

// P9.3: with nought, with one, with itself: also those that aren't fit.
func TestCommonEdges(t *testing.T) {
	for _, p := range edges() {
		if p.Common(0) != p || P(0).Common(p) != p || p.Common(p) != p || p.Common(1) != 1 || P(1).Common(p) != 1 {
			t.Errorf("of %x: %x, %x, %x, %x, %x", uint64(p), uint64(p.Common(0)), uint64(P(0).Common(p)), uint64(p.Common(p)), uint64(p.Common(1)), uint64(P(1).Common(p)))
		}
	}
	for _, c := range [][3]P{{6, 0xa, 6}, {prime62, prime63, 1}, {1 << 63, 1 << 40, 1 << 40}, {1 << 63, prime63, 1}, {prime62 << 1, prime62, prime62}, {math.MaxUint64, 3, 3}, {1<<63 | 1, 3, 3}} {
		if c[0].Common(c[1]) != c[2] || c[1].Common(c[0]) != c[2] {
			t.Errorf("of %x and %x: %x", uint64(c[0]), uint64(c[1]), uint64(c[0].Common(c[1])))
		}
	}
}

// P9.3: a factor of both divides what is common, which divides both; and without it nothing is common any more.
func TestCommonFactor(t *testing.T) {
	r := dice()
	for range 1000 {
		f := ofDegree(r, r.IntN(40))
		a, b := ofDegree(r, r.IntN(64-f.Degree())), ofDegree(r, r.IntN(64-f.Degree()))
		p, q := gather(product(spread(f), spread(a))), gather(product(spread(f), spread(b)))
		got := p.Common(q)
		if !divides(got, p) || !divides(got, q) || !divides(f, got) || got != q.Common(p) {
			t.Fatalf("of %x and %x: %x, with the factor %x", uint64(p), uint64(q), uint64(got), uint64(f))
		}
		if want := gather(product(spread(f), spread(a.Common(b)))); got != want {
			t.Fatalf("of %x and %x: %x, not %x", uint64(p), uint64(q), uint64(got), uint64(want))
		}
	}
}

// P9.3: all of up to degree 13: every product is struck out, what is left is prime.
func TestPrimeSmall(t *testing.T) {
	const end = 1 << 14
	struck := make([]bool, end)
	for p := P(2); p < end; p++ {
		for q := p; p.Degree()+q.Degree() <= 13; q++ {
			struck[gather(product(spread(p), spread(q)))] = true
		}
	}
	for p := range P(end) {
		if want := p >= 2 && !struck[p]; p.Prime() != want {
			t.Errorf("of %x: %v", p, !want)
		}
	}
}

// P9.3: the first one and the last one that are fit, and primes that aren't.
func TestPrimeEdges(t *testing.T) {
	for p, want := range map[P]bool{
		2: true, 3: true, 4: false, 1 << 62: false, prime62: true, 1<<63 - 1: false, prime62 << 1: false, 1 << 63: false, prime63: false, math.MaxUint64: false,
	} {
		if p.Prime() != want {
			t.Errorf("of %x: %v", uint64(p), !want)
		}
	}
}

// berlekamp: is it prime, by his rule: it has no square factor, and no rest but 0 and 1 is its own square?
func berlekamp(p P) bool {
	derived := p >> 1 & 0x5555555555555555
	if p.Common(derived) != 1 {
		return false
	}
	var rows []P
	for i := range p.Degree() {
		rows = append(rows, byHand(P(1)<<i, P(1)<<i, p)^P(1)<<i)
	}
	return rank(rows) == p.Degree()-1
}

// rank: how many rows are no sums of others.
func rank(rows []P) int {
	var base [64]P
	count := 0
	for _, row := range rows {
		for row != 0 && base[row.Degree()] != 0 {
			row ^= base[row.Degree()]
		}
		if row != 0 {
			base[row.Degree()] = row
			count++
		}
	}
	return count
}

// P9.3: great ones, by another rule: enough of them are prime to tell the one from the other.
func TestPrime(t *testing.T) {
	r := dice()
	primes := 0
	for d := 2; d <= 62; d++ {
		for range 60 {
			// One of an even number of terms has the factor x + 1, and one without 1 has x.
			p := ofDegree(r, d) | 1
			want := berlekamp(p)
			if want {
				primes++
			}
			if p.Prime() != want {
				t.Fatalf("of %x: %v", uint64(p), !want)
			}
		}
	}
	if primes < 100 {
		t.Errorf("%d primes alone", primes)
	}
}

// P9.3: products of two primes, squares among them: of like degrees, and of unlike ones.
func TestPrimeProducts(t *testing.T) {
	r := dice()
	var primes []P
	for d := 1; d <= 61; d++ {
		for n := 0; n < 2; {
			p := ofDegree(r, d)
			if d == 1 || berlekamp(p) {
				primes = append(primes, p)
				n++
			}
		}
	}
	for _, p := range primes {
		if !p.Prime() {
			t.Errorf("of %x: false", uint64(p))
		}
		for _, q := range primes {
			if p.Degree()+q.Degree() > 62 {
				break
			}
			if both := gather(product(spread(p), spread(q))); both.Prime() {
				t.Errorf("of %x: true", uint64(both))
			}
		}
	}
}

// P9.4: sums in any order.
func TestSums(t *testing.T) {
	r := dice()
	for range 1000 {
		p, q, s := some(r), some(r), some(r)
		if p.Add(q) != q.Add(p) || p.Add(q).Add(s) != p.Add(q.Add(s)) || p.Add(0) != p || p.Add(p) != 0 {
			t.Fatalf("of %x, %x, %x", uint64(p), uint64(q), uint64(s))
		}
	}
}

// product3: p times q times s, from the left and from the right.
func product3(p, q, s, m P) (P, P) {
	left, _ := p.Times(q, m)
	left, _ = left.Times(s, m)
	right, _ := q.Times(s, m)
	right, _ = p.Times(right, m)
	return left, right
}

// P9.4: products in any order, products of sums, powers of sums of exponents, rests of sums.
func TestRing(t *testing.T) {
	r := dice()
	for range 2000 {
		p, q, s, m := some(r), some(r), some(r), someFit(r)
		pq, _ := p.Times(q, m)
		qp, _ := q.Times(p, m)
		left, right := product3(p, q, s, m)
		if pq != qp || left != right {
			t.Fatalf("products of %x, %x, %x by %x", uint64(p), uint64(q), uint64(s), uint64(m))
		}
		ps, _ := p.Times(s, m)
		sum, _ := p.Times(q.Add(s), m)
		if sum != pq.Add(ps) {
			t.Fatalf("products of sums of %x, %x, %x by %x", uint64(p), uint64(q), uint64(s), uint64(m))
		}
		one, _ := p.Times(1, m)
		rest, _ := p.Mod(m)
		if one != rest {
			t.Fatalf("one times %x by %x", uint64(p), uint64(m))
		}
		a, b := r.Uint64()>>1, r.Uint64()>>1
		pa, _ := p.Power(a, m)
		pb, _ := p.Power(b, m)
		both, _ := pa.Times(pb, m)
		if power, _ := p.Power(a+b, m); power != both {
			t.Fatalf("powers of %x by %x", uint64(p), uint64(m))
		}
		rq, _ := q.Mod(m)
		if of, _ := p.Add(q).Mod(m); of != rest.Add(rq) {
			t.Fatalf("the rest of a sum of %x and %x by %x", uint64(p), uint64(q), uint64(m))
		}
	}
}
