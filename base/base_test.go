package base_test

import (
	"bytes"
	"math"
	"slices"
	"strconv"
	"strings"
	"testing"

	"descant/api"
	"descant/base"
	"descant/bitio"
	"descant/loop"
	"descant/part"
	"descant/predict"
	"descant/search"
	"descant/step"
)

const (
	told      = -1      // Fixed of a choice that is told
	longest   = 1 << 16 // samples of a channel, at the most
	levelEnd  = 1 << 33 // how far from 0 a level may be
	leastBits = 8       // bits of samples, at the least
	mostBits  = 25      // and at the most
)

// noise is numbers that look like chance, and are the same ones at each run.
type noise uint64

func (x *noise) next(n int) int {
	*x = *x*6364136223846793005 + 1442695040888963407
	return int(*x >> 33 % noise(n))
}

// number is a number of so many bits, up to 64.
func (x *noise) number(bits int) int {
	return (x.next(1<<31)<<33 ^ x.next(1<<31)<<13 ^ x.next(1<<31)) >> (64 - bits)
}

// list is n numbers of so many bits.
func (x *noise) list(n, bits int) []int {
	l := make([]int, n)
	for i := range l {
		l[i] = x.number(bits)
	}
	return l
}

// swing is n numbers of so many bits, each near to what the two ahead of it say.
func (x *noise) swing(n, bits int) []int {
	lo, hi := ends(bits)
	l := x.list(n, bits-5)
	for i := 2; i < n; i++ {
		l[i] = between(l[i]+(14*l[i-1]-7*l[i-2])/8, lo, hi)
	}
	return l
}

// samples is n numbers of so many bits, of one of the kinds that there are.
func (x *noise) samples(n, bits int) []int {
	lo, hi := ends(bits)
	switch x.next(7) {
	case 0:
		return x.list(n, bits)
	case 1:
		return slices.Repeat(x.list(1, bits), n)
	case 2:
		return make([]int, n)
	case 3:
		l := slices.Repeat(x.list(1, bits), n)
		for range min(n, 1+x.next(3)) {
			l[x.next(n)] = x.number(bits)
		}
		return l
	case 4:
		at, slope := x.number(bits), x.next(9)-4
		return curve(n, func(i int) int { return between(at+i*slope, lo, hi) })
	case 5:
		// Loud and quiet by turns, each some part of all.
		parts := 1 << x.next(7)
		return curve(n, func(i int) int { return x.number(1 + (bits-1)*(i*parts/n%2)) })
	}
	return x.swing(n, bits)
}

// width is of how many bits samples may be.
func (x *noise) width() int {
	return leastBits + x.next(mostBits-leastBits+1)
}

// set is a right one, for samples of so many bits.
func (x *noise) set(bits int) base.Set {
	s := base.Set{Step: 1 + x.next(1<<x.next(bits)), Shape: x.next(4), Bits: bits}
	if x.next(3) == 0 {
		s.Step = 1 << x.next(bits)
	}
	return s
}

// choice is one that needs no telling, or one with a few coefficients, or with many.
func (x *noise) choice() search.Choice {
	if x.next(2) == 0 {
		return fixed(x.next(5))
	}
	c := of(x.next(api.MaxShift+1), x.list(x.next(api.MaxOrder+1), 1+x.next(16))...)
	for i, w := range c.Predictor.Coefs {
		c.Predictor.Coefs[i] = max(w, -api.MaxCoef)
	}
	return c
}

// curve is n numbers, as a rule says.
func curve(n int, rule func(i int) int) []int {
	l := make([]int, n)
	for i := range l {
		l[i] = rule(i)
	}
	return l
}

// ends are the least and the greatest number of so many bits.
func ends(bits int) (int, int) {
	return -1 << (bits - 1), 1<<(bits-1) - 1
}

// between is a number, or the end that it is beyond.
func between(x, lo, hi int) int {
	return min(max(x, lo), hi)
}

// fixed is a choice that needs no telling.
func fixed(order int) search.Choice {
	coefs := [][]int{{}, {1}, {2, -1}, {3, -3, 1}, {4, -6, 4, -1}}
	return search.Choice{Fixed: order, Predictor: api.Predictor{Coefs: coefs[order]}}
}

// of is a choice that is told.
func of(shift int, coefs ...int) search.Choice {
	return search.Choice{Fixed: told, Predictor: api.Predictor{Coefs: coefs, Shift: shift}}
}

// still, bare and coarse are plans.
func still(l []int, bits int) base.Plan {
	return base.Plan{Kind: 0, Bits: bits, Samples: l}
}

func bare(l []int, bits int) base.Plan {
	return base.Plan{Kind: 1, Bits: bits, Samples: l}
}

func coarse(order, bits int, levels, samples []int) base.Plan {
	return base.Plan{Kind: 2, Order: order, Bits: bits, Levels: levels, Samples: samples}
}

// alike tells whether two plans are the same.
func alike(a, b base.Plan) bool {
	return a.Kind == b.Kind && a.Order == b.Order && a.Bits == b.Bits &&
		slices.Equal(a.Levels, b.Levels) && slices.Equal(a.Samples, b.Samples)
}

// digits are the lowest n bits of x, as a text.
func digits(x, n int) string {
	s := strings.Repeat("0", 64) + strconv.FormatUint(uint64(x)&(1<<n-1), 2)
	return s[len(s)-n:]
}

// packed is a text of bits as bytes, with bits 0 behind.
func packed(s string) []byte {
	s += strings.Repeat("0", (8-len(s)%8)%8)
	b := make([]byte, 0, len(s)/8)
	for ; s != ""; s = s[8:] {
		v, _ := strconv.ParseUint(s[:8], 2, 8)
		b = append(b, byte(v))
	}
	return b
}

// text is the bits of a writer, as a text.
func text(w *bitio.Writer) string {
	var s strings.Builder
	for _, b := range w.Bytes() {
		s.WriteString(digits(int(b), 8))
	}
	return s.String()[:w.Len()]
}

// reader is a reader that has the bits of the text, and no other ones: it stands behind bits 1 that fill up the first byte.
func reader(s string) *bitio.Reader {
	ahead := (8 - len(s)%8) % 8
	r := bitio.Read(packed(strings.Repeat("1", ahead) + s))
	r.Get(ahead)
	return r
}

// choiceCode and partCode are the codes of the layers below.
func choiceCode(c search.Choice) string {
	w := &bitio.Writer{}
	search.Put(w, c)
	return text(w)
}

func partCode(l []int, order int) string {
	w := &bitio.Writer{}
	part.Put(w, l, order)
	return text(w)
}

// stillCode, bareCode and coarseCode are the codes of a channel by each kind, as the words say them.
func stillCode(x, bits int) string {
	return "00" + digits(x, bits)
}

func bareCode(l []int, bits int) string {
	var s strings.Builder
	s.WriteString("01")
	for _, x := range l {
		s.WriteString(digits(x, bits))
	}
	return s.String()
}

func coarseCode(c search.Choice, levels []int, order int) string {
	return "10" + choiceCode(c) + partCode(levels, order)
}

// wayOf is the way of a choice and a set.
func wayOf(c search.Choice, s base.Set) loop.Way {
	return loop.Way{Predictor: c.Predictor, Step: s.Step, Shape: s.Shape, Bits: s.Bits}
}

// orderOf is the order by which a list costs least, asked one by one.
func orderOf(l []int) int {
	best, least := 0, part.Cost(l, 0)
	for p := 1; p <= 6; p++ {
		if cost := part.Cost(l, p); cost > 0 && cost < least {
			best, least = p, cost
		}
	}
	return best
}

// model is a channel's plan and code, word by word.
func model(l []int, c search.Choice, s base.Set) (base.Plan, string) {
	levels, samples, _ := wayOf(c, s).Code(l)
	order := orderOf(levels)
	best, code := coarse(order, 0, levels, samples), coarseCode(c, levels, order)
	if as := bareCode(l, s.Bits); len(as) <= len(code) {
		best, code = bare(l, 0), as
	}
	same, sample := true, 0
	for _, x := range l {
		sample = l[0]
		same = same && x == sample
	}
	if as := stillCode(sample, s.Bits); same && len(as) <= len(code) {
		best, code = still(l, 0), as
	}
	best.Bits = len(code)
	return best, code
}

// makes fails, if samples have another plan, or another code, or do not sound like that when they are got.
func makes(t *testing.T, l []int, c search.Choice, s base.Set, want base.Plan, code string) {
	t.Helper()
	kept, coefs := slices.Clone(l), slices.Clone(c.Predictor.Coefs)
	if got, e := base.Make(l, c, s); e != api.OK || !alike(got, want) {
		t.Fatalf("of %v, %v, %v: %v, error %d, not %v", kept, c, s, got, e, want)
	}
	w := &bitio.Writer{}
	w.Put(5, 3)
	if got, e := base.Put(w, l, c, s); e != api.OK || !alike(got, want) {
		t.Fatalf("of %v, %v, %v: put %v, error %d, not %v", kept, c, s, got, e, want)
	}
	if got := text(w); got != "101"+code {
		t.Fatalf("of %v, %v, %v: bits %s, not 101 and %s", kept, c, s, got, code)
	}
	if !slices.Equal(l, kept) || !slices.Equal(c.Predictor.Coefs, coefs) {
		t.Fatal("what was handed in has changed")
	}
	if want.Bits != len(code) {
		t.Fatalf("of %v, %v, %v: %d bits, not %d", kept, c, s, len(code), want.Bits)
	}
	gets(t, code, s, want.Samples)
}

// gets fails, if something else is got of these bits, also if others stand behind them, or if what was read is not all of them.
func gets(t *testing.T, code string, s base.Set, want []int) {
	t.Helper()
	for _, behind := range []string{"", "1", "0110"} {
		r := reader(code + behind)
		l, e := base.Get(r, len(want), s)
		if e != api.OK || !slices.Equal(l, want) || r.Left() != len(behind) {
			t.Fatalf("%d samples, %v, of %s: %v, error %d, %d left, not %v", len(want), s, code, l, e, r.Left(), want)
		}
	}
}

// refuses fails, if something is got of these bits, or there is another error.
func refuses(t *testing.T, code string, n int, s base.Set, want api.Errno) {
	t.Helper()
	if l, e := base.Get(reader(code), n, s); e != want || len(l) > 0 {
		t.Fatalf("%d samples, %v, of %s: %v, error %d, not %d", n, s, code, l, e, want)
	}
}

// makesNone fails, if samples have a plan, or something is written, or there is another error.
func makesNone(t *testing.T, l []int, c search.Choice, s base.Set, want api.Errno) {
	t.Helper()
	if p, e := base.Make(l, c, s); e != want || !alike(p, base.Plan{}) {
		t.Errorf("%d samples, %v, %v: %v, error %d, not %d", len(l), c, s, p, e, want)
	}
	w := &bitio.Writer{}
	w.Put(5, 3)
	if p, e := base.Put(w, l, c, s); e != want || !alike(p, base.Plan{}) || text(w) != "101" {
		t.Errorf("%d samples, %v, %v: put %v, error %d, not %d, bits %s", len(l), c, s, p, e, want, text(w))
	}
	if p, e := base.Put(nil, l, c, s); e != api.ErrNil || !alike(p, base.Plan{}) {
		t.Errorf("%d samples, %v, %v, no writer: %v, error %d", len(l), c, s, p, e)
	}
}

// cutOff fails, if a code is got though bits of it are missing.
func cutOff(t *testing.T, code string, n int, s base.Set) {
	t.Helper()
	for i := range len(code) {
		refuses(t, code[:i], n, s, api.ErrEnd)
	}
}

// wrongSets are such as are right but for one thing, or more.
func wrongSets() []base.Set {
	l := []base.Set{{}, {Step: 1<<24 + 1, Bits: 25}, {Step: 1<<15 + 1, Shape: 1, Bits: 16}, {Step: 1 << 31, Bits: 32}}
	for _, bits := range []int{math.MinInt, -8, 0, 1, 7, 26, 32, 33, 64, 1<<32 + 8, math.MaxInt} {
		l = append(l, base.Set{Step: 1, Bits: bits}, base.Set{Step: 1, Shape: 3, Bits: bits})
	}
	for _, q := range []int{math.MinInt, -4, -1, 0, 129, 256, 1<<32 + 1, math.MaxInt} {
		l = append(l, base.Set{Step: q, Bits: 8}, base.Set{Step: q, Shape: 2, Bits: 8})
	}
	for _, shape := range []int{math.MinInt, -1, 4, 5, 1 << 32, math.MaxInt} {
		l = append(l, base.Set{Step: 4, Shape: shape, Bits: 8}, base.Set{Step: 129, Shape: shape, Bits: 8})
	}
	return l
}

// wrongChoices are none.
func wrongChoices() []search.Choice {
	l := []search.Choice{
		{Fixed: 1}, {Fixed: 0, Predictor: api.Predictor{Coefs: []int{1}}}, {Fixed: 1, Predictor: api.Predictor{Coefs: []int{1}, Shift: 1}},
		{Fixed: 2, Predictor: api.Predictor{Coefs: []int{2, 1}}}, {Fixed: 0, Predictor: api.Predictor{Shift: 15}},
		of(-1), of(16), of(math.MinInt, 1), of(0, 1<<15), of(0, -1<<15), of(0, 1, math.MaxInt), of(0, make([]int, 33)...),
	}
	for _, number := range []int{-2, 5, 6, math.MinInt, math.MaxInt} {
		// Right predictors, but no choices.
		l = append(l, search.Choice{Fixed: number}, search.Choice{Fixed: number, Predictor: fixed(2).Predictor})
	}
	return l
}

// P20.1, P20.3: the kinds' numbers.
func TestKinds(t *testing.T) {
	if base.Still != 0 || base.Bare != 1 || base.Coarse != 2 {
		t.Error(base.Still, base.Bare, base.Coarse)
	}
}

// P20.4: the way, also of such as may not be, and a list of its own.
func TestWay(t *testing.T) {
	x := noise(1)
	sets := append(wrongSets(), x.set(8), x.set(25), base.Set{Step: 4, Shape: 1, Bits: 16})
	for _, s := range sets {
		for _, c := range append(wrongChoices(), fixed(0), fixed(3), of(7, 64, -32), x.choice()) {
			kept := slices.Clone(c.Predictor.Coefs)
			way, want := base.Way(c, s), wayOf(c, s)
			if way.Step != want.Step || way.Shape != want.Shape || way.Bits != want.Bits ||
				way.Predictor.Shift != want.Predictor.Shift || !slices.Equal(way.Predictor.Coefs, kept) {
				t.Fatalf("%v, %v: %v", c, s, way)
			}
			for i := range way.Predictor.Coefs {
				way.Predictor.Coefs[i]++
			}
			_ = append(way.Predictor.Coefs[:0], 77)
			if !slices.Equal(c.Predictor.Coefs, kept) {
				t.Fatalf("%v, %v: its list is the choice's", c, s)
			}
		}
	}
}

// P20.1, P20.2, P20.3: codes by hand.
func TestByHand(t *testing.T) {
	for _, c := range []struct {
		l    []int
		c    search.Choice
		s    base.Set
		plan base.Plan
		code string
	}{
		// All are the same, with whatever step; one sample by itself is no shorter as it is.
		{[]int{5, 5, 5}, fixed(0), base.Set{Step: 1, Bits: 8}, still([]int{5, 5, 5}, 10), "00" + "00000101"},
		{[]int{5, 5, 5}, fixed(4), base.Set{Step: 128, Shape: 3, Bits: 8}, still([]int{5, 5, 5}, 10), "00" + "00000101"},
		{[]int{-5}, of(3, 9), base.Set{Step: 7, Shape: 1, Bits: 8}, still([]int{-5}, 10), "00" + "11111011"},
		{[]int{127, 127}, fixed(1), base.Set{Step: 2, Bits: 8}, still([]int{127, 127}, 10), "00" + "01111111"},
		{[]int{-128, -128}, fixed(1), base.Set{Step: 2, Bits: 8}, still([]int{-128, -128}, 10), "00" + "10000000"},
		{[]int{-1 << 24}, fixed(1), base.Set{Step: 1, Bits: 25}, still([]int{-1 << 24}, 27), "00" + "1000000000000000000000000"},
		// No samples at all: as they are, they take nothing.
		{nil, fixed(0), base.Set{Step: 1, Bits: 8}, bare(nil, 2), "01"},
		{[]int{}, fixed(2), base.Set{Step: 1 << 24, Shape: 2, Bits: 25}, bare(nil, 2), "01"},
		{[]int{100, -100}, fixed(0), base.Set{Step: 4, Bits: 8}, bare([]int{100, -100}, 18), "01" + "01100100" + "10011100"},
		{[]int{10, 21, 30}, fixed(1), base.Set{Step: 4, Bits: 8}, bare([]int{10, 21, 30}, 26), "01" + "00001010" + "00010101" + "00011110"},
		{[]int{10, 21, 30}, fixed(1), base.Set{Step: 4, Bits: 9}, coarse(0, 27, []int{3, 2, 3}, []int{12, 20, 32}), "10" + "0001" + "000" + "000010" + "1010" + "1000" + "1010"},
		{[]int{10, 21, 30}, of(0, 1), base.Set{Step: 4, Bits: 16}, coarse(0, 40, []int{3, 2, 3}, []int{12, 20, 32}), "10" + "1" + "000001" + "0000" + "0001" + "01" + "000" + "000010" + "1010" + "1000" + "1010"},
		// Nothing is heard of samples that are no further than half of the step from 0.
		{[]int{10, 21, 30}, fixed(0), base.Set{Step: 128, Bits: 8}, coarse(0, 15, []int{0, 0, 0}, []int{0, 0, 0}), "10" + "0000" + "000" + "011111"},
		{[]int{10, 21, 63}, fixed(3), base.Set{Step: 128, Bits: 8}, coarse(0, 15, []int{0, 0, 0}, []int{0, 0, 0}), "10" + "0011" + "000" + "011111"},
		// Shaped, levels are half as far apart: what was missed leads the next one to the other side.
		{[]int{20, 20, 20, 21}, fixed(0), base.Set{Step: 128, Shape: 1, Bits: 8}, coarse(0, 21, []int{0, 1, 0, 0}, []int{0, 64, 0, 0}), "10" + "0000" + "000" + "000000" + "0" + "110" + "0" + "0"},
		// Samples that are the same may sound like others: 15 bits, if all levels are 0, so that the kind that is named first is it up to 13 bits.
		{slices.Repeat([]int{9}, 5), fixed(1), base.Set{Step: 20, Bits: 12}, still(slices.Repeat([]int{9}, 5), 14), "00" + "000000001001"},
		{slices.Repeat([]int{9}, 5), fixed(1), base.Set{Step: 20, Bits: 13}, still(slices.Repeat([]int{9}, 5), 15), "00" + "0000000001001"},
		{slices.Repeat([]int{9}, 5), fixed(1), base.Set{Step: 20, Bits: 14}, coarse(0, 15, make([]int, 5), make([]int, 5)), "10" + "0001" + "000" + "011111"},
		{slices.Repeat([]int{9}, 1), fixed(1), base.Set{Step: 20, Bits: 14}, coarse(0, 15, make([]int, 1), make([]int, 1)), "10" + "0001" + "000" + "011111"},
		{slices.Repeat([]int{11}, 5), fixed(1), base.Set{Step: 20, Bits: 14}, still(slices.Repeat([]int{11}, 5), 16), "00" + "00000000001011"},
	} {
		if plan, code := model(c.l, c.c, c.s); !alike(plan, c.plan) || code != c.code {
			t.Errorf("the model of %v, %v, %v: %v, %s, not %v, %s", c.l, c.c, c.s, plan, code, c.plan, c.code)
		}
		makes(t, c.l, c.c, c.s, c.plan, c.code)
		cutOff(t, c.code, len(c.l), c.s)
	}
}

// P20.1: of plans that are as short, the one whose kind is named first.
func TestTies(t *testing.T) {
	x := noise(2)
	// One sample takes as much as it is.
	for bits := leastBits; bits <= 13; bits++ {
		lo, hi := ends(bits)
		for _, sample := range []int{lo, -1, 0, hi} {
			makes(t, []int{sample}, x.choice(), x.set(bits), still([]int{sample}, 2+bits), stillCode(sample, bits))
		}
	}
	// What is coarse in no fewer bits than it has is told as it is, and sounds like that.
	ties := 0
	for range 20000 {
		bits := 8 + x.next(3)
		l, c, s := x.list(2+x.next(20), 1+x.next(bits)), fixed(x.next(5)), x.set(bits)
		levels, _, _ := wayOf(c, s).Code(l)
		if _, takes := part.Order(levels); 4+takes != len(l)*bits || slices.Max(l) == slices.Min(l) {
			continue
		}
		ties++
		makes(t, l, c, s, bare(l, 2+len(l)*bits), bareCode(l, bits))
	}
	// All three, of samples of any width, where samples are the same.
	for bits := leastBits; bits <= mostBits; bits++ {
		for n := range 10 {
			for _, sample := range []int{0, 1, 5, 100, -7} {
				l, c, s := slices.Repeat([]int{sample}, n), fixed(n%5), base.Set{Step: 1 + 9*(n%3), Bits: bits}
				plan, code := model(l, c, s)
				makes(t, l, c, s, plan, code)
			}
		}
	}
	if ties < 50 {
		t.Error(ties)
	}
}

// heard fails, if what a plan sounds like is too far from the samples, or not them with the step 1, or if it takes too many bits.
func heard(t *testing.T, l []int, s base.Set, p base.Plan) {
	t.Helper()
	if len(p.Samples) != len(l) || p.Bits > 2+len(l)*s.Bits {
		t.Fatalf("%d samples of %d bits: %d, %d bits", len(l), s.Bits, len(p.Samples), p.Bits)
	}
	lo, hi := ends(s.Bits)
	for i, y := range p.Samples {
		if d := y - l[i]; max(d, -d) > s.Step/2 || max(d, -d) > step.Bound(s.Step) || y < lo || y > hi {
			t.Fatalf("%v: %v sounds like %v", s, l, p.Samples)
		}
	}
	if s.Step == 1 && !slices.Equal(p.Samples, l) {
		t.Fatalf("%v: %v sounds like %v", s, l, p.Samples)
	}
}

// P20.1 to P20.3, P20.5, P20.6: samples of all kinds and widths, word by word.
func TestAllKinds(t *testing.T) {
	x, kinds, orders, fine := noise(3), make([]int, 3), make([]int, 7), 0
	for bits := leastBits; bits <= mostBits; bits++ {
		for range 60 {
			l, c, s := x.samples(1+x.next(500), bits), x.choice(), x.set(bits)
			plan, code := model(l, c, s)
			makes(t, l, c, s, plan, code)
			heard(t, l, s, plan)
			kinds[plan.Kind]++
			if plan.Kind == 2 {
				orders[plan.Order]++
				if s.Step == 1 {
					fine++
				}
			}
		}
	}
	if slices.Min(kinds) < 20 || slices.Min(orders) == 0 || fine < 5 {
		t.Error(kinds, orders, fine)
	}
}

// P20.1 to P20.3, P20.5, P20.6: all pairs of some samples, and single ones, with some sets each.
func TestPairs(t *testing.T) {
	x := noise(4)
	for a := -128; a < 128; a += 3 {
		for b := -128; b < 128; b += 5 {
			for _, l := range [][]int{{a}, {a, b}, {a, b, b, a, a, b}} {
				c, s := fixed((a+b)&3), x.set(8)
				plan, code := model(l, c, s)
				makes(t, l, c, s, plan, code)
				heard(t, l, s, plan)
			}
		}
	}
}

// P20.1, P20.3: step, shape and bits are those of the set, and the choice is that which is handed in, each by itself.
func TestSetsMatter(t *testing.T) {
	x := noise(5)
	l := x.swing(500, 16)
	c, s := of(3, 14, -7), base.Set{Step: 30, Shape: 2, Bits: 16}
	first, code := model(l, c, s)
	makes(t, l, c, s, first, code)
	for _, o := range []base.Set{{29, 2, 16}, {30, 0, 16}, {30, 1, 16}, {30, 3, 16}} {
		plan, code := model(l, c, o)
		makes(t, l, c, o, plan, code)
		if slices.Equal(plan.Samples, first.Samples) || plan.Kind != base.Coarse {
			t.Errorf("%v: as with others", o)
		}
	}
	for _, o := range []search.Choice{fixed(0), fixed(2), of(3, 14, -6), of(4, 28, -14), of(3, 14, -7, 0)} {
		plan, code := model(l, o, s)
		makes(t, l, o, s, plan, code)
		if plan.Bits == first.Bits {
			t.Errorf("%v: as with others", o)
		}
	}
	// Cut off at the ends of 16 bits, so that guesses are, too.
	lo, hi := ends(16)
	cut := curve(200, func(i int) int { return between(6000*(i%20-10), lo, hi) })
	narrow, code := model(cut, fixed(2), s)
	makes(t, cut, fixed(2), s, narrow, code)
	s.Bits = 20
	wide, code := model(cut, fixed(2), s)
	makes(t, cut, fixed(2), s, wide, code)
	if slices.Equal(narrow.Levels, wide.Levels) || narrow.Kind != base.Coarse || wide.Kind != base.Coarse {
		t.Error(narrow, wide)
	}
}

// P20.1, P20.2: what may not be, in the order in which it is named; none, if there is no writer, but that.
func TestMakeWrong(t *testing.T) {
	long, loud := make([]int, longest+1), slices.Repeat([]int{1 << 40}, longest+1)
	lists := [][]int{nil, {}, {0}, {5, 5, 5}, {1, 2, 3}, {300}, {math.MinInt, math.MaxInt}, long, loud}
	for _, l := range lists {
		for _, s := range wrongSets() {
			makesNone(t, l, fixed(1), s, api.ErrArg)
			makesNone(t, l, of(7, 64, -32), s, api.ErrArg)
		}
		for _, c := range wrongChoices() {
			makesNone(t, l, c, base.Set{Step: 4, Bits: 8}, api.ErrArg)
			makesNone(t, l, c, base.Set{Step: 1 << 24, Shape: 3, Bits: 25}, api.ErrArg)
			makesNone(t, l, c, base.Set{}, api.ErrArg)
		}
	}
	for _, l := range [][]int{long, loud} {
		makesNone(t, l, fixed(1), base.Set{Step: 4, Bits: 8}, api.ErrLong)
		makesNone(t, l, of(7, 64, -32), base.Set{Step: 1, Shape: 3, Bits: 25}, api.ErrLong)
	}
}

// P20.1, P20.2: samples that do not fit, only just, and by far, also if they are all the same.
func TestNoSample(t *testing.T) {
	x := noise(6)
	for bits := leastBits; bits <= mostBits; bits++ {
		lo, hi := ends(bits)
		for _, y := range []int{lo - 1, hi + 1, math.MinInt, math.MaxInt} {
			for _, l := range [][]int{{y}, {y, y, y}, {y, 0}, {0, y}, {lo, hi, y, 0}} {
				makesNone(t, l, fixed(1), base.Set{Step: 1, Bits: bits}, api.ErrSample)
				makesNone(t, l, x.choice(), x.set(bits), api.ErrSample)
			}
		}
		for _, l := range [][]int{{lo}, {hi}, {lo, hi}, {hi, hi, lo, 0, lo}, {hi, hi, hi}, {lo, lo, lo}} {
			for _, q := range []int{1, 2, 3, 1<<(bits-1) - 1, 1 << (bits - 1)} {
				c, s := x.choice(), base.Set{Step: q, Shape: x.next(4), Bits: bits}
				plan, code := model(l, c, s)
				makes(t, l, c, s, plan, code)
				heard(t, l, s, plan)
			}
		}
	}
}

// P20.3: no reader, and numbers of samples and sets that may not be, whatever stands there.
func TestGetNone(t *testing.T) {
	right := []base.Set{{Step: 1, Bits: 8}, {Step: 1 << 24, Shape: 3, Bits: 25}}
	wrong := []int{-1, -8, -1 << 16, math.MinInt, math.MaxInt, 1<<32 + 1, longest + 1, 1 << 20}
	codes := []string{"", "0", "11", "01" + strings.Repeat("0", 70), "00" + strings.Repeat("0", 70), "10" + "0000" + "000" + "011111"}
	for _, n := range append(wrong, 0, 1, longest) {
		for _, s := range append(wrongSets(), right...) {
			if l, e := base.Get(nil, n, s); e != api.ErrNil || len(l) > 0 {
				t.Errorf("no reader, %d samples, %v: %v, error %d", n, s, l, e)
			}
			if slices.Contains(wrong, n) || !slices.Contains(right, s) {
				for _, code := range codes {
					refuses(t, code, n, s, api.ErrArg)
				}
			}
		}
	}
	for _, s := range right {
		refuses(t, "", 0, s, api.ErrEnd)
		refuses(t, "", longest, s, api.ErrEnd)
		if l, e := base.Get(&bitio.Reader{}, 0, s); e != api.ErrEnd || len(l) > 0 {
			t.Errorf("a reader of nothing: %v, error %d", l, e)
		}
	}
}

// P20.3: one sample stands for all, of whatever width, with whatever step.
func TestGetStill(t *testing.T) {
	x := noise(7)
	for bits := leastBits; bits <= mostBits; bits++ {
		lo, hi := ends(bits)
		for _, sample := range []int{lo, -1, 0, hi, lo / 3, hi / 3} {
			for _, n := range []int{0, 1, 2, 3, 100} {
				s := x.set(bits)
				gets(t, stillCode(sample, bits), s, slices.Repeat([]int{sample}, n))
				cutOff(t, stillCode(sample, bits), n, s)
			}
		}
	}
	gets(t, stillCode(-7, 24), base.Set{Step: 100, Bits: 24}, slices.Repeat([]int{-7}, longest))
}

// P20.3: samples as they are, also such as would be shorter otherwise.
func TestGetBare(t *testing.T) {
	x := noise(8)
	for bits := leastBits; bits <= mostBits; bits++ {
		lo, hi := ends(bits)
		for _, l := range [][]int{nil, {lo}, {hi}, {0, 0, 0}, {-1, -1}, {lo, hi, lo}, x.list(10, bits), x.samples(20, bits)} {
			s := x.set(bits)
			gets(t, bareCode(l, bits), s, l)
			cutOff(t, bareCode(l, bits), len(l), s)
		}
	}
	refuses(t, "01"+strings.Repeat("0", 1000), longest, base.Set{Step: 1, Bits: 8}, api.ErrEnd)
}

// playOf is what levels sound like, one by one.
func playOf(levels []int, c search.Choice, s base.Set) (l []int) {
	for _, n := range levels {
		guess, _ := predict.Guess(c.Predictor, l, s.Bits)
		spot := step.Spot{Guess: guess, Step: s.Step, Bits: s.Bits, Shaped: s.Shape > 0}
		y, _ := spot.Value(n)
		l = append(l, y)
	}
	return l
}

// P20.3: whatever levels, by whatever choice, with whatever order, also such as would be shorter otherwise.
func TestGetCoarse(t *testing.T) {
	x := noise(9)
	for bits := leastBits; bits <= mostBits; bits++ {
		for range 12 {
			c, s, n := x.choice(), x.set(bits), x.next(100)
			levels := x.list(n, 1+x.next(34))
			if x.next(2) == 0 {
				levels, _, _ = wayOf(c, s).Code(x.samples(max(n, 1), bits)[:n])
			}
			for order := range 7 {
				if order > 0 && n < 1<<order {
					continue
				}
				gets(t, coarseCode(c, levels, order), s, playOf(levels, c, s))
			}
		}
	}
	for range 20 {
		c, s := x.choice(), x.set(12)
		levels := x.list(9, 1+x.next(12))
		for order := range 4 {
			cutOff(t, coarseCode(c, levels, order), 9, s)
		}
		cutOff(t, coarseCode(c, nil, 0), 0, s)
	}
}

// P20.3: codes that may not be; bits that are missing are told, if they are missing ahead of these.
func TestGetCodes(t *testing.T) {
	zeros, s := strings.Repeat("0", 80), base.Set{Step: 4, Shape: 1, Bits: 8}
	for _, n := range []int{0, 1, 3, longest} {
		refuses(t, "11", n, s, api.ErrCode)
		refuses(t, "11"+zeros, n, s, api.ErrCode)
		refuses(t, "1", n, s, api.ErrEnd)
		// Choices that may not be: a Fixed above 4, too many coefficients, one that is too low.
		for _, c := range []string{"0101", "0110", "0111", "1" + "100001" + "0000" + "0000", "1" + "000001" + "0000" + "1111" + "1000000000000000"} {
			refuses(t, "10"+c, n, s, api.ErrCode)
			refuses(t, "10"+c+zeros, n, s, api.ErrCode)
			refuses(t, "10"+c[:len(c)-1], n, s, api.ErrEnd)
		}
		// An order that no list has, and ways that may not be.
		refuses(t, "10"+"0000"+"111", n, s, api.ErrCode)
		refuses(t, "10"+"0000"+"11", n, s, api.ErrEnd)
		for way := 34; way < 64; way++ {
			refuses(t, "10"+"0000"+"000"+digits(way, 6), n, s, api.ErrCode)
			refuses(t, "10"+"0000"+"000"+digits(way, 6)[:5], n, s, api.ErrEnd)
		}
	}
	// Orders that so few numbers have not.
	refuses(t, "10"+"0000"+"001"+"011111"+"011111", 0, s, api.ErrCode)
	refuses(t, "10"+"0000"+"001"+"011111"+"011111", 1, s, api.ErrCode)
	gets(t, "10"+"0000"+"001"+"011111"+"011111", s, []int{0, 0})
	// A number that is none of a list's: all 41 bits of Raw, and the least number of these.
	refuses(t, "10"+"0000"+"000"+"100001"+"101001"+"1"+strings.Repeat("0", 40), 1, s, api.ErrCode)
}

// P20.3: levels up to the edge, and beyond it, at either end of a list; bits that are missing and codes that may not be are told ahead of that.
func TestGetRange(t *testing.T) {
	x := noise(10)
	for range 40 {
		c, s := x.choice(), x.set(x.width())
		for _, n := range []int{levelEnd, -levelEnd, levelEnd - 1} {
			for _, levels := range [][]int{{n}, {n, 0}, {0, n}, {1, 2, n, 3}} {
				gets(t, coarseCode(c, levels, 0), s, playOf(levels, c, s))
			}
		}
		for _, n := range []int{levelEnd + 1, -levelEnd - 1, 1<<39 - 1, -1 << 39} {
			for _, levels := range [][]int{{n}, {n, 0}, {0, n}, {1, 2, n, 3}} {
				code := coarseCode(c, levels, 0)
				refuses(t, code, len(levels), s, api.ErrRange)
				refuses(t, code+"1", len(levels), s, api.ErrRange)
				cutOff(t, code, len(levels), s)
			}
			// The last part's way is none.
			refuses(t, "10"+choiceCode(c)+"001"+partCode([]int{n}, 0)[3:]+"111111", 2, s, api.ErrCode)
			refuses(t, "10"+choiceCode(c)+"001"+partCode([]int{n}, 0)[3:]+"11111", 2, s, api.ErrEnd)
		}
	}
}

// readOf is what a row of bits says, read piece by piece; of a choice and a list as their layers do.
func readOf(row string, n int, s base.Set) ([]int, api.Errno) {
	at := 0
	sample := func() (int, bool) {
		if at += s.Bits; at > len(row) {
			return 0, false
		}
		v, _ := strconv.ParseInt("0"+row[at-s.Bits:at], 2, 64)
		if row[at-s.Bits] == '1' {
			v -= 1 << s.Bits
		}
		return int(v), true
	}
	if len(row) < 2 {
		return nil, api.ErrEnd
	}
	at = 2
	var l []int
	switch row[:2] {
	case "00":
		x, ok := sample()
		if !ok {
			return nil, api.ErrEnd
		}
		return slices.Repeat([]int{x}, n), api.OK
	case "01":
		for range n {
			x, ok := sample()
			if !ok {
				return nil, api.ErrEnd
			}
			l = append(l, x)
		}
		return l, api.OK
	case "11":
		return nil, api.ErrCode
	}
	r := reader(row[2:])
	c, e := search.Get(r)
	if e != api.OK {
		return nil, e
	}
	levels, _, e := part.Get(r, n)
	if e != api.OK {
		return nil, e
	}
	for _, level := range levels {
		if level < -levelEnd || level > levelEnd {
			return nil, api.ErrRange
		}
	}
	return playOf(levels, c, s), api.OK
}

// asRead fails, if something else is got of these bits than they say.
func asRead(t *testing.T, row string, n int, s base.Set) api.Errno {
	t.Helper()
	want, wantErr := readOf(row, n, s)
	l, e := base.Get(reader(row), n, s)
	if e != wantErr || !slices.Equal(l, want) {
		t.Fatalf("%d samples, %v, of %s: %v, error %d, not %v, error %d", n, s, row, l, e, want, wantErr)
	}
	return e
}

// P20.3: all rows of few bits.
func TestShortRows(t *testing.T) {
	x := noise(11)
	for long := range 16 {
		for number := range 1 << long {
			row := digits(number, long)
			asRead(t, row, number%4, x.set(8))
			asRead(t, row, 1, base.Set{Step: 1, Bits: 9})
		}
	}
}

// P20.3: whatever bits, and codes of which one bit is another one.
func TestWhateverBits(t *testing.T) {
	x, errs := noise(12), make(map[api.Errno]int)
	for range 20000 {
		s := x.set(x.width())
		var row strings.Builder
		for range x.next(12) {
			row.WriteString(strings.Repeat(strconv.Itoa(x.next(2)), x.next(20)))
		}
		errs[asRead(t, row.String(), x.next(9), s)]++
		errs[asRead(t, "10"+digits(x.number(64), x.next(60)), x.next(5), s)]++
		errs[asRead(t, "01"+digits(x.number(64), x.next(60)), x.next(5), s)]++
		c := x.choice()
		levels := x.list(1+x.next(20), 1+x.next(38))
		code := []byte(coarseCode(c, levels, 0))
		code[2+x.next(len(code)-2)] ^= 1
		errs[asRead(t, string(code), len(levels), s)]++
	}
	for _, e := range []api.Errno{api.OK, api.ErrEnd, api.ErrCode, api.ErrRange} {
		if errs[e] < 500 {
			t.Error(errs)
		}
	}
}

// P20.2, P20.3, P20.5: channels one behind the other, in one writer.
func TestThereAndBack(t *testing.T) {
	x := noise(13)
	for range 200 {
		w := &bitio.Writer{}
		var sets []base.Set
		var plans []base.Plan
		for range 1 + x.next(8) {
			s := x.set(x.width())
			l := x.samples(1+x.next(100), s.Bits)
			if x.next(10) == 0 {
				l = nil
			}
			from := w.Len()
			p, e := base.Put(w, l, x.choice(), s)
			if e != api.OK || w.Len()-from != p.Bits {
				t.Fatal(p, e, w.Len()-from)
			}
			heard(t, l, s, p)
			sets, plans = append(sets, s), append(plans, p)
		}
		r := bitio.Read(w.Bytes())
		for i, p := range plans {
			l, e := base.Get(r, len(p.Samples), sets[i])
			if e != api.OK || !slices.Equal(l, p.Samples) {
				t.Fatal(l, e, p)
			}
		}
	}
}

// P20.1 to P20.3, P20.5, P20.6: as many samples as there may be.
func TestLongChannels(t *testing.T) {
	x := noise(14)
	for i, l := range [][]int{x.swing(longest, 24), x.list(longest, 24), make([]int, longest), slices.Repeat([]int{-9}, longest)} {
		c, s := []search.Choice{of(3, 14, -7), fixed(3), fixed(0), fixed(1)}[i], base.Set{Step: 1 + i%3, Shape: i, Bits: 24}
		plan, code := model(l, c, s)
		makes(t, l, c, s, plan, code)
		heard(t, l, s, plan)
		if want := []int{2, 1, 2, 0}[i]; plan.Kind != want {
			t.Error(plan.Kind, want)
		}
	}
}

// P20.1 to P20.3: what is answered is new memory, made anew each time.
func TestAnswersAreNew(t *testing.T) {
	x := noise(15)
	spoil := func(lists ...[]int) {
		for _, l := range lists {
			for i := range l {
				l[i] = 99
			}
			_ = append(l[:0], 98)
		}
	}
	for _, l := range [][]int{x.swing(200, 16), curve(100, func(i int) int { return 50 * i }), {7, 7, 7}, {9000, -9000}, make([]int, 8)} {
		c, s := of(3, 14, -7), base.Set{Step: 1, Bits: 16}
		kept := slices.Clone(l)
		want, code := model(kept, c, s)
		bits := packed(code)
		for range 2 {
			p, e := base.Make(l, c, s)
			if e != api.OK || !alike(p, want) {
				t.Fatal(p, e)
			}
			spoil(p.Levels)
			if !slices.Equal(p.Samples, want.Samples) {
				t.Fatal("levels are samples")
			}
			spoil(p.Samples)
			w := &bitio.Writer{}
			p, e = base.Put(w, l, c, s)
			spoil(p.Levels, p.Samples)
			if e != api.OK || !bytes.Equal(w.Bytes(), bits) {
				t.Fatal(e, text(w))
			}
			got, e := base.Get(bitio.Read(bits), len(l), s)
			if e != api.OK || !slices.Equal(got, want.Samples) {
				t.Fatal(got, e)
			}
			spoil(got)
		}
		if !slices.Equal(l, kept) || !slices.Equal(c.Predictor.Coefs, []int{14, -7}) {
			t.Error("what was handed in is answered")
		}
	}
}
