package coef_test

import (
	"bytes"
	"math"
	"math/big"
	"slices"
	"strconv"
	"strings"
	"testing"

	"descant/api"
	"descant/bitio"
	"descant/coef"
)

const (
	one = 1 << 24 // what coefficients are multiples of a part of
	far = 1 << 40 // how far from 0 they are taken
)

// noise is numbers that look like chance, and are the same ones at each run.
type noise uint64

func (x *noise) next(n int) int {
	*x = *x*6364136223846793005 + 1442695040888963407
	return int(*x >> 33 % noise(n))
}

// number is a number of so many bits, up to 64.
func (x *noise) number(bits int) int {
	return (x.next(1<<31)<<33 ^ x.next(1<<31)<<13 ^ x.next(1<<31)) >> (64 - bits)
}

// coefs are n coefficients, each from -most to most.
func (x *noise) coefs(n, most int) []int {
	l := make([]int, n)
	for i := range l {
		l[i] = x.next(2*most+1) - most
	}
	return l
}

// predictor is a right one.
func (x *noise) predictor() api.Predictor {
	return api.Predictor{Coefs: x.coefs(x.next(api.MaxOrder+1), 1<<x.next(16)-1), Shift: x.next(api.MaxShift + 1)}
}

// of is a predictor.
func of(shift int, coefs ...int) api.Predictor {
	return api.Predictor{Coefs: coefs, Shift: shift}
}

// alike tells whether two predictors have the same numbers.
func alike(a, b api.Predictor) bool {
	return a.Shift == b.Shift && slices.Equal(a.Coefs, b.Coefs)
}

// many are n times the same coefficient.
func many(n, c int) []int {
	return slices.Repeat([]int{c}, n)
}

// wrong are predictors that are not right.
func wrong() []api.Predictor {
	l := []api.Predictor{of(0, many(33, 0)...), of(15, many(33, 1)...), of(3, many(64, 0)...), of(3, many(1000, 5)...), of(16, many(33, 1<<15)...)}
	for _, shift := range []int{-1, 16, 17, 31, 1 << 32, math.MinInt, math.MaxInt} {
		l = append(l, of(shift), of(shift, 1), of(shift, many(32, 2)...))
	}
	for _, c := range []int{-1 << 15, 1 << 15, -1<<15 - 1, 1<<15 + 1, 1 << 16, -1 << 32, 1 << 32, math.MinInt, math.MaxInt} {
		ahead, behind := many(32, 3), many(32, 3)
		ahead[0], behind[31] = c, c
		l = append(l, of(0, c), of(15, 0, c, 0), of(4, ahead...), of(4, behind...))
	}
	return l
}

// right are predictors that are right, some of them only just.
func right() []api.Predictor {
	l := []api.Predictor{{}, of(0), of(15), of(0, 0), of(7, 64, -32), of(0, 1<<15-1), of(15, -1<<15+1), of(3, many(32, 0)...), of(15, many(32, 1<<15-1)...), of(0, many(32, -1<<15+1)...)}
	for n := range 15 {
		// Just so many bits, and one more, on either side of 0.
		l = append(l, of(n, 1<<n-1), of(n, -1<<n), of(n, 0, 1<<n), of(n, 5, -1<<n-1))
	}
	x := noise(1)
	for range 300 {
		l = append(l, x.predictor())
	}
	return l
}

// need is the least width of whose bits all numbers are; 1 of none.
func need(l []int) int {
	n := 1
	for _, x := range l {
		for x < -1<<(n-1) || x > 1<<(n-1)-1 {
			n++
		}
	}
	return n
}

// digits are the lowest n bits of u, as a text.
func digits(u uint, n int) string {
	s := strings.Repeat("0", 64) + strconv.FormatUint(uint64(u), 2)
	return s[len(s)-n:]
}

// wide is what a predictor's code would be with another width.
func wide(p api.Predictor, width int) string {
	var s strings.Builder
	s.WriteString(digits(uint(len(p.Coefs)), 6) + digits(uint(p.Shift), 4) + digits(uint(width-1), 4))
	for _, c := range p.Coefs {
		if c < 0 {
			c += 1 << width
		}
		s.WriteString(digits(uint(c), width))
	}
	return s.String()
}

// code is a right predictor's code, as the words say it.
func code(p api.Predictor) string {
	return wide(p, need(p.Coefs))
}

// packed is a text of bits as bytes, with bits 0 behind.
func packed(s string) []byte {
	s += strings.Repeat("0", (8-len(s)%8)%8)
	b := make([]byte, 0, len(s)/8)
	for ; s != ""; s = s[8:] {
		v, _ := strconv.ParseUint(s[:8], 2, 8)
		b = append(b, byte(v))
	}
	return b
}

// reader is a reader that has the bits of the text, and no other ones: it stands behind bits 1 that fill up the first byte.
func reader(s string) *bitio.Reader {
	ahead := (8 - len(s)%8) % 8
	r := bitio.Read(packed(strings.Repeat("1", ahead) + s))
	r.Get(ahead)
	return r
}

// has fails, if the writer has other bits than those of the text.
func has(t *testing.T, w *bitio.Writer, s string) {
	t.Helper()
	if w.Len() != len(s) || !bytes.Equal(w.Bytes(), packed(s)) {
		t.Fatalf("%d bits %x, not %d bits %x", w.Len(), w.Bytes(), len(s), packed(s))
	}
}

// gets fails, if something else is got of these bits; with an error nothing else may be told.
func gets(t *testing.T, s string, want api.Predictor, wantErr api.Errno) {
	t.Helper()
	p, e := coef.Get(reader(s))
	if e != wantErr || !alike(p, want) {
		t.Fatalf("of %s: %v, error %d, not %v, error %d", s, p, e, want, wantErr)
	}
}

// P12.1: right predictors, and others.
func TestRight(t *testing.T) {
	for _, p := range right() {
		if !coef.Right(p) {
			t.Errorf("%v is not right", p)
		}
	}
	for _, p := range wrong() {
		if coef.Right(p) {
			t.Errorf("%v is right", p)
		}
	}
}

// P12.1: noughts at the end, also of predictors that are not right.
func TestTrim(t *testing.T) {
	for _, c := range []struct{ p, want api.Predictor }{
		{api.Predictor{}, of(0)},
		{of(9), of(9)},
		{of(9, 0), of(9)},
		{of(9, 0, 0, 0), of(9)},
		{of(1, 5), of(1, 5)},
		{of(2, 5, 0), of(2, 5)},
		{of(3, 0, 5, 0, 0), of(3, 0, 5)},
		{of(4, 0, 0, 5), of(4, 0, 0, 5)},
		{of(4, 1, 0, -1, 0, 0), of(4, 1, 0, -1)},
		{of(15, -1), of(15, -1)},
		{of(-1, 1, 0), of(-1, 1)},
		{of(math.MaxInt, 0), of(math.MaxInt)},
		{of(math.MinInt, math.MinInt, math.MaxInt, 0), of(math.MinInt, math.MinInt, math.MaxInt)},
		{of(0, many(1000, 0)...), of(0)},
		{of(0, append(many(1000, 7), 0)...), of(0, many(1000, 7)...)},
	} {
		kept := slices.Clone(c.p.Coefs)
		if got := coef.Trim(c.p); !alike(got, c.want) || !slices.Equal(c.p.Coefs, kept) {
			t.Errorf("of %v %v, not %v", kept, got, c.want)
		}
	}
}

// P12.1: a trimmed predictor shares no memory with the one it was.
func TestTrimIsNew(t *testing.T) {
	for _, p := range []api.Predictor{of(0, 1, 2, 3), of(0, 1, 2, 0), of(0, 0, 0, 0)} {
		kept := slices.Clone(p.Coefs)
		got := coef.Trim(p)
		for i := range got.Coefs {
			got.Coefs[i] = 9
		}
		_ = append(got.Coefs, 9, 9)
		if !slices.Equal(p.Coefs, kept) {
			t.Errorf("%v, not %v", p.Coefs, kept)
		}
	}
}

// P12.1: which predictors are the same.
func TestSame(t *testing.T) {
	l := []api.Predictor{
		of(0), of(1), of(-1), of(math.MinInt), of(0, 0), of(1, 0), of(0, 0, 0), of(0, 1), of(1, 1), of(0, -1), of(0, 1, 0), of(0, 0, 1),
		of(0, 1, 2), of(0, 2, 1), of(0, 1, 3), of(0, math.MaxInt), of(0, math.MinInt), of(0, many(100, 1)...), of(0, many(101, 1)...), of(0, append(many(99, 1), 2)...),
	}
	for i, a := range l {
		for j, b := range l {
			b.Coefs = slices.Clone(b.Coefs)
			if got := coef.Same(a, b); got != (i == j) {
				t.Errorf("%v and %v: %v", a, b, got)
			}
		}
	}
	if !coef.Same(api.Predictor{}, api.Predictor{Coefs: []int{}}) || !coef.Same(api.Predictor{Coefs: []int{}}, api.Predictor{}) {
		t.Error("no coefficients are not the same as none")
	}
}

// large is a number without end.
func large(x int) *big.Int {
	return big.NewInt(int64(x))
}

// between is a number, as far from 0 as another one, if it is further.
func between(x *big.Int, end int) *big.Int {
	switch {
	case x.CmpAbs(large(end)) <= 0:
		return x
	case x.Sign() < 0:
		return large(-end)
	}
	return large(end)
}

// next is the whole number next to x, divided by 2^n: the greater one of two that are as near.
func next(x *big.Int, n int) *big.Int {
	unit := new(big.Int).Lsh(large(1), uint(n))
	twice := new(big.Int).Add(new(big.Int).Lsh(x, 1), unit)
	// Euclid's division is rounded down, as what is divided by is above 0.
	return new(big.Int).Div(twice, unit.Lsh(unit, 1))
}

// quantOf is what Quant makes of coefficients, word by word; and whether one was too great, by itself, or with the rest.
func quantOf(c []int, bits int) (api.Predictor, bool) {
	top := 1
	for range bits - 1 {
		top *= 2
	}
	top--
	fits := func(s int) bool {
		for _, x := range c {
			if next(between(large(x), far), 24-s).CmpAbs(large(top)) > 0 {
				return false
			}
		}
		return true
	}
	p, great, found := api.Predictor{}, false, false
	for s := range api.MaxShift + 1 {
		if fits(s) {
			p.Shift, found = s, true
		}
	}
	great = !found
	rest := large(0)
	for _, x := range c {
		both := new(big.Int).Add(between(large(x), far), rest)
		q := next(both, 24-p.Shift)
		great = great || q.CmpAbs(large(top)) > 0
		q = between(q, top)
		p.Coefs = append(p.Coefs, int(q.Int64()))
		rest = between(new(big.Int).Sub(both, new(big.Int).Lsh(q, uint(24-p.Shift))), far)
	}
	return p, great
}

// quant holds what Quant makes against the model, and tells it.
func quant(t *testing.T, c []int, bits int) api.Predictor {
	t.Helper()
	kept := slices.Clone(c)
	got, e := coef.Quant(c, bits)
	if want, _ := quantOf(c, bits); e != api.OK || !alike(got, want) {
		t.Fatalf("of %v with %d bits: %v, error %d, not %v", c, bits, got, e, want)
	}
	if !slices.Equal(c, kept) {
		t.Fatal("what was handed in has changed")
	}
	return got
}

// quantCase is what coefficients come to with so many bits.
type quantCase struct {
	c    []int
	bits int
	want api.Predictor
}

// quants holds what Quant makes against the model, and against what is wanted.
func quants(t *testing.T, cases []quantCase) {
	t.Helper()
	for _, c := range cases {
		if got := quant(t, c.c, c.bits); !alike(got, c.want) {
			t.Errorf("of %v with %d bits: %v, not %v", c.c, c.bits, got, c.want)
		}
	}
}

// P12.2: predictors by hand.
func TestQuant(t *testing.T) {
	quants(t, []quantCase{
		{[]int{1 << 23, -1 << 22}, 8, of(7, 64, -32)},
		{nil, 2, of(15)},
		{[]int{}, 16, of(15)},
		{[]int{0}, 2, of(15, 0)},
		{[]int{0, 0, 0}, 13, of(15, 0, 0, 0)},
		// With 16 bits top is 2^15 - 1: one, with the Shift 15, is one more.
		{[]int{one}, 16, of(14, 1<<14)},
		{[]int{one - 1}, 16, of(14, 1<<14)},
		{[]int{one - 1<<9}, 16, of(15, 1<<15-1)},
		// A half, rounded upwards, is too much above 0, and not below it.
		{[]int{one - 1<<8 - 1}, 16, of(15, 1<<15-1)},
		{[]int{one - 1<<8}, 16, of(14, 1<<14)},
		{[]int{-one + 1<<8}, 16, of(15, -1<<15+1)},
		{[]int{-one + 1<<8 - 1}, 16, of(14, -1<<14)},
		// With 2 bits top is 1.
		{[]int{one}, 2, of(0, 1)},
		{[]int{3*one/2 - 1}, 2, of(0, 1)},
		{[]int{-3 * one / 2}, 2, of(0, -1)},
		{[]int{1 << 9, -1 << 9}, 2, of(15, 1, -1)},
		{[]int{1<<9 + 1<<8 - 1}, 2, of(15, 1)},
		{[]int{1<<9 + 1<<8}, 2, of(14, 1)},
		{[]int{-1<<9 - 1<<8}, 2, of(15, -1)},
		{[]int{-1<<9 - 1<<8 - 1}, 2, of(14, -1)},
		// The greatest one tells the Shift, wherever it stands.
		{[]int{1 << 9, 1 << 9, 1 << 12}, 5, of(15, 1, 1, 8)},
		{[]int{1 << 13, 1 << 9, 1 << 9}, 5, of(14, 8, 1, 0)},
		{[]int{1 << 9, -1 << 13, 1 << 9}, 5, of(14, 1, -8, 0)},
	})
}

// P12.2: what one coefficient leaves goes to the next one.
func TestRests(t *testing.T) {
	quants(t, []quantCase{
		// A quarter is left, then a half, which makes one.
		{[]int{1 << 7, 1 << 7, 1 << 7, 1 << 7, 0}, 2, of(15, 0, 1, 0, 0, 0)},
		{[]int{-1 << 7, -1 << 7, -1 << 7, -1 << 7}, 2, of(15, 0, 0, -1, 0)},
		{[]int{1 << 8, 0, 0}, 2, of(15, 1, 0, 0)},
		{[]int{1 << 8, 1 << 8, 1 << 8}, 2, of(15, 1, 0, 1)},
		{[]int{-1 << 8, -1 << 8, -1 << 8}, 2, of(15, 0, -1, 0)},
		// One and a quarter each: with the rest too great by and by, and what is left stays.
		{[]int{640, 640, 640, 640, 640, 640, -512}, 2, of(15, 1, 1, 1, 1, 1, 1, 1)},
		{[]int{-640, -640, -640, -640, -640, -640, -640, 512, 512}, 2, of(15, -1, -1, -1, -1, -1, -1, -1, -1, 1)},
	})
}

// P12.2: coefficients that are too great with any Shift.
func TestTooGreat(t *testing.T) {
	quants(t, []quantCase{
		{[]int{3 * one / 2}, 2, of(0, 1)},
		{[]int{-3*one/2 - 1}, 2, of(0, -1)},
		{[]int{4 * one, 0, 0, 0, 0}, 2, of(0, 1, 1, 1, 1, 0)},
		{[]int{-4 * one, 0, 0, 0, 0}, 2, of(0, -1, -1, -1, -1, 0)},
		{[]int{(1<<15 - 1) * one}, 16, of(0, 1<<15-1)},
		{[]int{(1<<15-1)*one + one/2 - 1}, 16, of(0, 1<<15-1)},
		{[]int{(1<<15-1)*one + one/2, 0}, 16, of(0, 1<<15-1, 1)},
		{[]int{-(1<<15 - 1) * one, 0}, 16, of(0, -1<<15+1, 0)},
		{[]int{-1 << 15 * one, 0}, 16, of(0, -1<<15+1, -1)},
		// Each is taken as 2^40 from 0: what is left of the first one is 2^40 less top.
		{[]int{far, -far}, 16, of(0, 1<<15-1, -1<<15+1)},
		{[]int{far + 1<<39, -far}, 16, of(0, 1<<15-1, -1<<15+1)},
		{[]int{math.MaxInt, -far}, 16, of(0, 1<<15-1, -1<<15+1)},
		{[]int{math.MinInt, far}, 16, of(0, -1<<15+1, 1<<15-1)},
		{[]int{math.MaxInt, math.MinInt}, 16, of(0, 1<<15-1, -1<<15+1)},
		{[]int{1<<16*one - 1, 0, 0, 0}, 16, of(0, 1<<15-1, 1<<15-1, 2, 0)},
		{[]int{math.MaxInt, 0, 0, 0}, 16, of(0, 1<<15-1, 1<<15-1, 2, 0)},
		// The rest, too, is at most 2^40: behind three of them two are left, but for what one coefficient takes.
		{append(many(3, far), -far, 0, 0), 16, of(0, 1<<15-1, 1<<15-1, 1<<15-1, 0, 0, 0)},
		{append(many(3, -far), far, 0, 0), 16, of(0, -1<<15+1, -1<<15+1, -1<<15+1, 0, 0, 0)},
		{append(many(31, far), -far), 16, of(0, append(many(31, 1<<15-1), 0)...)},
	})
}

// P12.2: bits and coefficients that may not be, and in which order that is asked.
func TestQuantErrors(t *testing.T) {
	for _, c := range []struct {
		n, bits int
		want    api.Errno
	}{
		{1, 1, api.ErrArg}, {1, 17, api.ErrArg}, {1, 0, api.ErrArg}, {1, -2, api.ErrArg}, {1, math.MinInt, api.ErrArg}, {1, math.MaxInt, api.ErrArg}, {1, 64, api.ErrArg},
		{0, 1, api.ErrArg}, {0, 17, api.ErrArg}, {32, 1, api.ErrArg},
		{33, 1, api.ErrArg}, {33, 17, api.ErrArg},
		{33, 2, api.ErrLong}, {33, 16, api.ErrLong}, {1000, 13, api.ErrLong},
		{32, 2, api.OK}, {32, 16, api.OK}, {0, 2, api.OK}, {0, 16, api.OK},
	} {
		p, e := coef.Quant(many(c.n, 1<<20), c.bits)
		if e != c.want || e != api.OK && (len(p.Coefs) > 0 || p.Shift != 0) {
			t.Errorf("%d coefficients, %d bits: %v, error %d, not %d", c.n, c.bits, p, e, c.want)
		}
	}
}

// P12.2: coefficients of all sizes, with all bits.
func TestQuantOfMany(t *testing.T) {
	x := noise(2)
	for bits := 2; bits <= 16; bits++ {
		for range 300 {
			c := make([]int, x.next(api.MaxOrder+1))
			most := 1 + x.next(64)
			for i := range c {
				c[i] = x.number(1 + x.next(most))
			}
			quant(t, c, bits)
		}
	}
}

// P12.2: coefficients next to where the Shift changes, on either side of 0.
func TestQuantAtEdges(t *testing.T) {
	for bits := 2; bits <= 16; bits++ {
		top := 1<<(bits-1) - 1
		for s := range api.MaxShift + 1 {
			unit := 1 << (24 - s)
			for off := -1; off <= 1; off++ {
				edge := top*unit + unit/2 + off
				p := quant(t, []int{edge, 0, -edge}, bits)
				if off < 0 && p.Shift < s || off == 0 && s > 0 && p.Shift >= s {
					t.Errorf("%d with %d bits has the Shift %d", edge, bits, p.Shift)
				}
				quant(t, []int{-edge, 0}, bits)
				quant(t, []int{1, edge - 1, edge}, bits)
			}
		}
	}
}

// P12.6: what Quant makes is right, and of as many coefficients; none is far from what it stands for.
func TestQuantIsNear(t *testing.T) {
	x := noise(3)
	near := 0
	for range 3000 {
		bits := 2 + x.next(15)
		c := make([]int, x.next(api.MaxOrder+1))
		most := 5 + x.next(40)
		for i := range c {
			c[i] = x.number(most)
		}
		p, e := coef.Quant(c, bits)
		if e != api.OK || !coef.Right(p) || len(p.Coefs) != len(c) {
			t.Fatalf("of %v with %d bits: %v, error %d", c, bits, p, e)
		}
		if slices.ContainsFunc(p.Coefs, func(q int) bool { return q < 1-1<<(bits-1) || q > 1<<(bits-1)-1 }) {
			t.Fatalf("of %v with %d bits: %v", c, bits, p)
		}
		if _, great := quantOf(c, bits); great {
			continue
		}
		near++
		for i, q := range p.Coefs {
			if off := 2 * (q<<(24-p.Shift) - c[i]); off <= -3<<(24-p.Shift) || off >= 3<<(24-p.Shift) {
				t.Fatalf("%d stands for %d with the Shift %d", q, c[i], p.Shift)
			}
		}
	}
	if near < 500 {
		t.Error(near)
	}
}

// P12.3, P12.5: codes, and how many bits they have; they are got again.
func TestCodes(t *testing.T) {
	for _, p := range right() {
		kept := slices.Clone(p.Coefs)
		want := code(p)
		if got := coef.Cost(p); got != len(want) {
			t.Fatalf("%v costs %d, not %d", p, got, len(want))
		}
		w := &bitio.Writer{}
		w.Put(5, 3)
		if e := coef.Put(w, p); e != api.OK {
			t.Fatal(p, e)
		}
		has(t, w, "101"+want)
		if !slices.Equal(p.Coefs, kept) {
			t.Fatal("what was handed in has changed")
		}
		r := reader(want + "1011")
		got, e := coef.Get(r)
		if e != api.OK || !alike(got, p) || r.Left() != 4 {
			t.Fatalf("of %s: %v, error %d, not %v; %d bits left", want, got, e, p, r.Left())
		}
	}
}

// P12.3: codes by hand.
func TestCodesByHand(t *testing.T) {
	for _, c := range []struct {
		p    api.Predictor
		want string
	}{
		{of(0), "000000" + "0000" + "0000"},
		{of(15), "000000" + "1111" + "0000"},
		{of(1, 0), "000001" + "0001" + "0000" + "0"},
		{of(1, -1, 0), "000010" + "0001" + "0000" + "1" + "0"},
		{of(2, 1), "000001" + "0010" + "0001" + "01"},
		{of(2, -2, 1, 0), "000011" + "0010" + "0001" + "10" + "01" + "00"},
		{of(7, 64, -32), "000010" + "0111" + "0111" + "01000000" + "11100000"},
		{of(7, -64), "000001" + "0111" + "0110" + "1000000"},
		{of(9, 1<<15-1, -1<<15+1), "000010" + "1001" + "1111" + "0111111111111111" + "1000000000000001"},
	} {
		if got := code(c.p); got != c.want {
			t.Errorf("the model of %v: %s, not %s", c.p, got, c.want)
		}
		w := &bitio.Writer{}
		if e := coef.Put(w, c.p); e != api.OK || coef.Cost(c.p) != len(c.want) {
			t.Error(c.p, e, coef.Cost(c.p))
		}
		has(t, w, c.want)
	}
}

// P12.3: predictors that are not right have no code, and nothing is written.
func TestNoCode(t *testing.T) {
	for _, p := range wrong() {
		w := &bitio.Writer{}
		w.Put(5, 3)
		if e := coef.Put(w, p); e != api.ErrArg || coef.Cost(p) != 0 {
			t.Errorf("%v: error %d, cost %d", p, e, coef.Cost(p))
		}
		has(t, w, "101")
		if e := coef.Put(nil, p); e != api.ErrNil {
			t.Errorf("%v without a writer: error %d", p, e)
		}
	}
	for _, p := range right() {
		if e := coef.Put(nil, p); e != api.ErrNil {
			t.Errorf("%v without a writer: error %d", p, e)
		}
	}
}

// P12.4: predictors of whatever width.
func TestWidths(t *testing.T) {
	x := noise(4)
	for _, p := range right()[:100] {
		for width := need(p.Coefs); width <= 16; width++ {
			gets(t, wide(p, width)+digits(uint(x.next(16)), 4), p, api.OK)
		}
	}
	// Two from 0 on, one bit each.
	gets(t, "000010"+"0011"+"0000"+"1"+"0", of(3, -1, 0), api.OK)
}

// P12.4: bits that are missing, wherever they end.
func TestCutCodes(t *testing.T) {
	for _, p := range right()[:80] {
		s := code(p)
		for n := range s {
			gets(t, s[:n], api.Predictor{}, api.ErrEnd)
		}
	}
	if p, e := coef.Get(nil); e != api.ErrNil || !alike(p, api.Predictor{}) {
		t.Error(p, e)
	}
	if p, e := coef.Get(&bitio.Reader{}); e != api.ErrEnd || !alike(p, api.Predictor{}) {
		t.Error(p, e)
	}
}

// P12.4: more coefficients than there may be are told of behind the width.
func TestTooMany(t *testing.T) {
	for count := range uint(64) {
		for _, ahead := range []string{"0000" + "0000", "1111" + "1111", "0101" + "0001"} {
			s := digits(count, 6) + ahead
			for n := range s {
				gets(t, s[:n], api.Predictor{}, api.ErrEnd)
			}
			switch {
			case count > 32:
				gets(t, s, api.Predictor{}, api.ErrCode)
				gets(t, s+strings.Repeat("0", 2000), api.Predictor{}, api.ErrCode)
			case count > 0:
				gets(t, s, api.Predictor{}, api.ErrEnd)
			default:
				gets(t, s, of(int(ahead[3]-'0')+2*int(ahead[2]-'0')+4*int(ahead[1]-'0')+8*int(ahead[0]-'0')), api.OK)
			}
		}
	}
}

// P12.4: the one coefficient that may not be is told of behind its last bit, whatever comes.
func TestTooLow(t *testing.T) {
	low := "1" + strings.Repeat("0", 15)
	for count := uint(1); count <= 32; count++ {
		for place := range count {
			s := digits(count, 6) + "0000" + "1111"
			s += strings.Repeat("1000000000000001", int(place)) + low
			gets(t, s[:len(s)-1], api.Predictor{}, api.ErrEnd)
			gets(t, s, api.Predictor{}, api.ErrCode)
			gets(t, s+"1", api.Predictor{}, api.ErrCode)
			gets(t, s+strings.Repeat("0", 600), api.Predictor{}, api.ErrCode)
		}
	}
	// Of fewer bits the lowest number may be.
	for width := 1; width < 16; width++ {
		gets(t, "000001"+"0000"+digits(uint(width-1), 4)+"1"+strings.Repeat("0", width-1), of(0, -1<<(width-1)), api.OK)
	}
}

// getOf reads a predictor's code number by number.
func getOf(s string) (api.Predictor, int, api.Errno) {
	at, ended := 0, false
	number := func(n int) int {
		if ended || len(s)-at < n {
			ended = true
			return 0
		}
		v, _ := strconv.ParseUint(s[at:at+n], 2, 64)
		at += n
		return int(v)
	}
	count, shift, width := number(6), number(4), number(4)+1
	switch {
	case ended:
		return api.Predictor{}, 0, api.ErrEnd
	case count > 32:
		return api.Predictor{}, 0, api.ErrCode
	}
	p := of(shift)
	for range count {
		c := number(width)
		if c >= 1<<(width-1) {
			c -= 1 << width
		}
		switch {
		case ended:
			return api.Predictor{}, 0, api.ErrEnd
		case c == -1<<15:
			return api.Predictor{}, 0, api.ErrCode
		}
		p.Coefs = append(p.Coefs, c)
	}
	return p, at, api.OK
}

// P12.4: whatever bits.
func TestWhateverBits(t *testing.T) {
	x := noise(5)
	told := map[api.Errno]int{}
	for range 20000 {
		var b strings.Builder
		for long := x.next(300); b.Len() < long; {
			b.WriteString(strings.Repeat(strconv.Itoa(x.next(2)), 1+x.next(1+x.next(30))))
		}
		s := b.String()
		want, at, wantErr := getOf(s)
		told[wantErr]++
		r := reader(s)
		got, e := coef.Get(r)
		if e != wantErr || !alike(got, want) || e == api.OK && r.Left() != len(s)-at {
			t.Fatalf("of %s: %v, error %d, not %v, error %d; %d bits left", s, got, e, want, wantErr, r.Left())
		}
		if e == api.OK && !coef.Right(got) {
			t.Fatalf("%v is not right", got)
		}
	}
	if told[api.OK] < 1000 || told[api.ErrEnd] < 1000 || told[api.ErrCode] < 1000 {
		t.Error(told)
	}
}

// P12.2, P12.4: what is answered is new memory.
func TestAnswersAreNew(t *testing.T) {
	c := []int{1 << 9, 0, -1 << 9}
	p, _ := coef.Quant(c, 16)
	for i := range p.Coefs {
		p.Coefs[i] = 99
	}
	if !slices.Equal(c, []int{1 << 9, 0, -1 << 9}) {
		t.Error("what was handed in is answered")
	}
	again, _ := coef.Quant(c, 16)
	if !alike(again, of(15, 1, 0, -1)) {
		t.Error("what was answered is kept")
	}
}
