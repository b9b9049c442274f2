package sub_test

import (
	"bytes"
	"math"
	"slices"
	"strconv"
	"strings"
	"testing"

	"descant/api"
	"descant/bitio"
	"descant/part"
	"descant/predict"
	"descant/search"
	"descant/sub"
	"descant/window"
)

const (
	told    = -1      // Fixed of a choice that is told
	longest = 1 << 16 // samples of a channel, at the most
	windows = 3       // kinds of windows
)

// noise is numbers that look like chance, and are the same ones at each run.
type noise uint64

func (x *noise) next(n int) int {
	*x = *x*6364136223846793005 + 1442695040888963407
	return int(*x >> 33 % noise(n))
}

// number is a number of so many bits, up to 64.
func (x *noise) number(bits int) int {
	return (x.next(1<<31)<<33 ^ x.next(1<<31)<<13 ^ x.next(1<<31)) >> (64 - bits)
}

// list is n numbers of so many bits.
func (x *noise) list(n, bits int) []int {
	l := make([]int, n)
	for i := range l {
		l[i] = x.number(bits)
	}
	return l
}

// swing is n numbers of so many bits, each near to what the two ahead of it say.
func (x *noise) swing(n, bits int) []int {
	lo, hi := ends(bits)
	l := x.list(n, max(bits-5, 1))
	for i := 2; i < n; i++ {
		l[i] = between(l[i]+(14*l[i-1]-7*l[i-2])/8, lo, hi)
	}
	return l
}

// samples is n numbers of so many bits, of one of the kinds that there are.
func (x *noise) samples(n, bits int) []int {
	lo, hi := ends(bits)
	switch x.next(8) {
	case 0:
		return x.list(n, bits)
	case 1:
		return slices.Repeat(x.list(1, bits), n)
	case 2:
		return make([]int, n)
	case 3:
		l := slices.Repeat(x.list(1, bits), n)
		for range min(n, 1+x.next(3)) {
			l[x.next(n)] = x.number(bits)
		}
		return l
	case 4:
		at, slope := x.number(bits), x.next(9)-4
		return curve(n, func(i int) int { return between(at+i*slope, lo, hi) })
	case 5:
		// So smooth that what guesses by three, or by four, leave is nothing.
		far := x.next(2)
		return curve(n, func(i int) int { return between(i*(n-i)*(1+far*i), lo, hi) })
	case 6:
		// Loud and quiet by turns, each some part of all.
		parts := 1 << x.next(7)
		return curve(n, func(i int) int { return x.number(1 + (bits-1)*(i*parts/n%2)) })
	}
	return x.swing(n, bits)
}

// set is a right one, for samples of so many bits.
func (x *noise) set(bits int) sub.Set {
	return sub.Set{Order: x.next(api.MaxOrder + 1), Window: x.next(windows), Bits: bits}
}

// curve is n numbers, as a rule says.
func curve(n int, rule func(i int) int) []int {
	l := make([]int, n)
	for i := range l {
		l[i] = rule(i)
	}
	return l
}

// ends are the least and the greatest number of so many bits.
func ends(bits int) (int, int) {
	return -1 << (bits - 1), 1<<(bits-1) - 1
}

// between is a number, or the end that it is beyond.
func between(x, lo, hi int) int {
	return min(max(x, lo), hi)
}

// fits tells whether a number is one of so many bits.
func fits(x, bits int) bool {
	lo, hi := ends(bits)
	return lo <= x && x <= hi
}

// fixed is a choice that needs no telling.
func fixed(order int) search.Choice {
	coefs := [][]int{{}, {1}, {2, -1}, {3, -3, 1}, {4, -6, 4, -1}}
	return search.Choice{Fixed: order, Predictor: api.Predictor{Coefs: coefs[order]}}
}

// of is a choice that is told.
func of(shift int, coefs ...int) search.Choice {
	return search.Choice{Fixed: told, Predictor: api.Predictor{Coefs: coefs, Shift: shift}}
}

// plain is a set without predictors that are told.
func plain(bits int) sub.Set {
	return sub.Set{Window: window.Flat, Bits: bits}
}

// still, bare and guessed are plans.
func still(bits int) sub.Plan {
	return sub.Plan{Kind: 0, Bits: bits}
}

func bare(bits int) sub.Plan {
	return sub.Plan{Kind: 1, Bits: bits}
}

func guessed(c search.Choice, order, bits int) sub.Plan {
	return sub.Plan{Kind: 2, Choice: c, Order: order, Bits: bits}
}

// alike tells whether two plans are the same.
func alike(a, b sub.Plan) bool {
	p, q := a.Choice.Predictor, b.Choice.Predictor
	return a.Kind == b.Kind && a.Order == b.Order && a.Bits == b.Bits &&
		a.Choice.Fixed == b.Choice.Fixed && p.Shift == q.Shift && slices.Equal(p.Coefs, q.Coefs)
}

// digits are the lowest n bits of x, as a text.
func digits(x, n int) string {
	s := strings.Repeat("0", 64) + strconv.FormatUint(uint64(x)&(1<<n-1), 2)
	return s[len(s)-n:]
}

// packed is a text of bits as bytes, with bits 0 behind.
func packed(s string) []byte {
	s += strings.Repeat("0", (8-len(s)%8)%8)
	b := make([]byte, 0, len(s)/8)
	for ; s != ""; s = s[8:] {
		v, _ := strconv.ParseUint(s[:8], 2, 8)
		b = append(b, byte(v))
	}
	return b
}

// text is the bits of a writer, as a text.
func text(w *bitio.Writer) string {
	var s strings.Builder
	for _, b := range w.Bytes() {
		s.WriteString(digits(int(b), 8))
	}
	return s.String()[:w.Len()]
}

// reader is a reader that has the bits of the text, and no other ones: it stands behind bits 1 that fill up the first byte.
func reader(s string) *bitio.Reader {
	ahead := (8 - len(s)%8) % 8
	r := bitio.Read(packed(strings.Repeat("1", ahead) + s))
	r.Get(ahead)
	return r
}

// choiceCode and partCode are the codes of the layers below.
func choiceCode(c search.Choice) string {
	w := &bitio.Writer{}
	search.Put(w, c)
	return text(w)
}

func partCode(l []int, order int) string {
	w := &bitio.Writer{}
	part.Put(w, l, order)
	return text(w)
}

// stillCode, bareCode and guessedCode are the codes of a channel by each kind, as the words say them.
func stillCode(x, bits int) string {
	return "00" + digits(x, bits)
}

func bareCode(l []int, bits int) string {
	var s strings.Builder
	s.WriteString("01")
	for _, x := range l {
		s.WriteString(digits(x, bits))
	}
	return s.String()
}

func guessedCode(c search.Choice, l []int, bits, order int) string {
	left, _ := predict.Residue(c.Predictor, l, bits)
	return "10" + choiceCode(c) + partCode(left, order)
}

// orderOf is the order by which a list costs least, asked one by one.
func orderOf(l []int) int {
	best, least := 0, part.Cost(l, 0)
	for p := 1; p <= 6; p++ {
		if cost := part.Cost(l, p); cost > 0 && cost < least {
			best, least = p, cost
		}
	}
	return best
}

// model is a channel's plan and code, word by word.
func model(l []int, s sub.Set) (sub.Plan, string) {
	choice, _, _ := search.Best(l, s.Order, s.Window, s.Bits)
	left, _ := predict.Residue(choice.Predictor, l, s.Bits)
	order := orderOf(left)
	best, code := guessed(choice, order, 0), guessedCode(choice, l, s.Bits, order)
	if as := bareCode(l, s.Bits); len(as) <= len(code) {
		best, code = bare(0), as
	}
	same, sample := true, 0
	for _, x := range l {
		sample = l[0]
		same = same && x == sample
	}
	if as := stillCode(sample, s.Bits); same && len(as) <= len(code) {
		best, code = still(0), as
	}
	best.Bits = len(code)
	return best, code
}

// makes fails, if samples have another plan, or another code, or are not got back.
func makes(t *testing.T, l []int, s sub.Set, want sub.Plan, code string) {
	t.Helper()
	kept := slices.Clone(l)
	if got, e := sub.Make(l, s); e != api.OK || !alike(got, want) {
		t.Fatalf("of %v, %v: %v, error %d, not %v", kept, s, got, e, want)
	}
	w := &bitio.Writer{}
	w.Put(5, 3)
	if got, e := sub.Put(w, l, s); e != api.OK || !alike(got, want) {
		t.Fatalf("of %v, %v: put %v, error %d, not %v", kept, s, got, e, want)
	}
	if got := text(w); got != "101"+code {
		t.Fatalf("of %v, %v: bits %s, not 101 and %s", kept, s, got, code)
	}
	if !slices.Equal(l, kept) {
		t.Fatal("what was handed in has changed")
	}
	if want.Bits != len(code) {
		t.Fatalf("of %v, %v: %d bits, not %d", kept, s, len(code), want.Bits)
	}
	gets(t, code, len(l), s.Bits, l, want)
}

// gets fails, if something else is got of these bits, also if others stand behind them, or if what was read is not all of them.
func gets(t *testing.T, code string, n, bits int, want []int, plan sub.Plan) {
	t.Helper()
	for _, behind := range []string{"", "1", "0110"} {
		r := reader(code + behind)
		l, p, e := sub.Get(r, n, bits)
		if e != api.OK || !slices.Equal(l, want) || !alike(p, plan) || r.Left() != len(behind) {
			t.Fatalf("%d samples of %d bits of %s: %v, %v, error %d, %d left, not %v, %v", n, bits, code, l, p, e, r.Left(), want, plan)
		}
	}
}

// refuses fails, if something is got of these bits, or there is another error.
func refuses(t *testing.T, code string, n, bits int, want api.Errno) {
	t.Helper()
	if l, p, e := sub.Get(reader(code), n, bits); e != want || len(l) > 0 || !alike(p, sub.Plan{}) {
		t.Fatalf("%d samples of %d bits of %s: %v, %v, error %d, not %d", n, bits, code, l, p, e, want)
	}
}

// makesNone fails, if samples have a plan, or something is written, or there is another error.
func makesNone(t *testing.T, l []int, s sub.Set, want api.Errno) {
	t.Helper()
	if p, e := sub.Make(l, s); e != want || !alike(p, sub.Plan{}) {
		t.Errorf("%d samples, %v: %v, error %d, not %d", len(l), s, p, e, want)
	}
	w := &bitio.Writer{}
	w.Put(5, 3)
	if p, e := sub.Put(w, l, s); e != want || !alike(p, sub.Plan{}) || text(w) != "101" {
		t.Errorf("%d samples, %v: put %v, error %d, not %d, bits %s", len(l), s, p, e, want, text(w))
	}
	if p, e := sub.Put(nil, l, s); e != api.ErrNil || !alike(p, sub.Plan{}) {
		t.Errorf("%d samples, %v, no writer: %v, error %d", len(l), s, p, e)
	}
}

// cutOff fails, if a code is got though bits of it are missing.
func cutOff(t *testing.T, code string, n, bits int) {
	t.Helper()
	for i := range len(code) {
		refuses(t, code[:i], n, bits, api.ErrEnd)
	}
}

// P19.1, P19.3: the kinds' numbers.
func TestKinds(t *testing.T) {
	if sub.Still != 0 || sub.Bare != 1 || sub.Guessed != 2 {
		t.Error(sub.Still, sub.Bare, sub.Guessed)
	}
}

// P19.1, P19.2, P19.3: codes by hand.
func TestByHand(t *testing.T) {
	for _, c := range []struct {
		l    []int
		bits int
		plan sub.Plan
		code string
	}{
		// All are the same; one sample by itself is no shorter as it is.
		{[]int{5, 5, 5}, 8, still(10), "00" + "00000101"},
		{[]int{5}, 8, still(10), "00" + "00000101"},
		{[]int{-5, -5}, 8, still(10), "00" + "11111011"},
		{[]int{-1, -1, -1}, 1, still(3), "00" + "1"},
		{[]int{0, 0, 0}, 1, still(3), "00" + "0"},
		{[]int{127, 127}, 8, still(10), "00" + "01111111"},
		{[]int{-128, -128}, 8, still(10), "00" + "10000000"},
		{[]int{-1 << 31, -1 << 31}, 32, still(34), "00" + "10000000000000000000000000000000"},
		// No samples at all: as they are, they take nothing.
		{nil, 8, bare(2), "01"},
		{[]int{}, 1, bare(2), "01"},
		{nil, 32, bare(2), "01"},
		{[]int{1, 2, 3}, 8, guessed(fixed(2), 0, 20), "10" + "0010" + "000" + "000000" + "110" + "0" + "0"},
		{[]int{5, 1, -3, 7}, 8, guessed(fixed(0), 0, 33), "10" + "0000" + "000" + "000010" + "11010" + "010" + "1001" + "111010"},
		{[]int{100, -100}, 8, bare(18), "01" + "01100100" + "10011100"},
		{[]int{0, -1, 0}, 1, bare(5), "01" + "0" + "1" + "0"},
		{[]int{-1 << 31, 1<<31 - 1}, 32, bare(66), "01" + "10000000000000000000000000000000" + "01111111111111111111111111111111"},
		// Noughts: 15 bits if they are guessed, so that the kind that is named first is not it up to 13 bits.
		{make([]int, 9), 12, still(14), "00" + "000000000000"},
		{make([]int, 9), 13, still(15), "00" + "0000000000000"},
		{make([]int, 9), 14, guessed(fixed(0), 0, 15), "10" + "0000" + "000" + "011111"},
		{make([]int, 1), 14, guessed(fixed(0), 0, 15), "10" + "0000" + "000" + "011111"},
		{make([]int, 9), 32, guessed(fixed(0), 0, 15), "10" + "0000" + "000" + "011111"},
	} {
		if plan, code := model(c.l, plain(c.bits)); !alike(plan, c.plan) || code != c.code {
			t.Errorf("the model of %v: %v, %s, not %v, %s", c.l, plan, code, c.plan, c.code)
		}
		makes(t, c.l, plain(c.bits), c.plan, c.code)
		cutOff(t, c.code, len(c.l), c.bits)
	}
}

// P19.1: of plans that are as short, the one whose kind is named first.
func TestTies(t *testing.T) {
	// One sample takes as much as it is.
	for bits := 1; bits <= 13; bits++ {
		for _, x := range []int{-1 << (bits - 1), -1, 0, 1<<(bits-1) - 1} {
			makes(t, []int{x}, plain(bits), still(2+bits), stillCode(x, bits))
		}
	}
	// Noughts that are guessed take 15 bits, as does a sample of 13.
	makes(t, make([]int, 100), plain(13), still(15), stillCode(0, 13))
	// What is guessed in no fewer bits than it has is told as it is.
	x, ties := noise(1), 0
	for range 3000 {
		bits := 2 + x.next(7)
		l := x.list(2+x.next(20), 1+x.next(bits))
		_, takes, _ := search.Best(l, 0, window.Flat, bits)
		if takes != len(l)*bits || slices.Max(l) == slices.Min(l) {
			continue
		}
		ties++
		makes(t, l, plain(bits), bare(2+takes), bareCode(l, bits))
	}
	if ties < 20 {
		t.Error(ties)
	}
}

// P19.1, P19.2, P19.4, P19.5: all lists of few samples of few bits.
func TestSmallLists(t *testing.T) {
	for bits, longest := range map[int]int{1: 8, 2: 4, 3: 3, 4: 2} {
		for n := range longest + 1 {
			for number := 0; number < 1<<(bits*n); number++ {
				l := make([]int, n)
				for i := range l {
					l[i] = number>>(bits*i)&(1<<bits-1) - 1<<(bits-1)
				}
				s := sub.Set{Order: number % 5, Window: number % windows, Bits: bits}
				plan, code := model(l, s)
				makes(t, l, s, plan, code)
			}
		}
	}
}

// P19.1, P19.2, P19.4, P19.5: samples of all kinds and widths, word by word.
func TestAllKinds(t *testing.T) {
	x, kinds, choices, orders := noise(2), make([]int, 3), make([]int, 6), make([]int, 7)
	for bits := 1; bits <= 32; bits++ {
		for range 30 {
			l, s := x.samples(1+x.next(600), bits), x.set(bits)
			plan, code := model(l, s)
			makes(t, l, s, plan, code)
			if len(code) > 2+len(l)*bits {
				t.Fatalf("%d samples of %d bits take %d", len(l), bits, len(code))
			}
			kinds[plan.Kind]++
			if plan.Kind == 2 {
				choices[plan.Choice.Fixed+1]++
				orders[plan.Order]++
			}
		}
	}
	for _, counts := range [][]int{kinds, choices, orders} {
		if slices.Min(counts) == 0 {
			t.Error(kinds, choices, orders)
		}
	}
}

// P19.1: order, window and bits are those of the set, each by itself.
func TestSetsMatter(t *testing.T) {
	x := noise(3)
	l := x.swing(500, 16)
	lo, hi := ends(16)
	// Cut off at the ends of 16 bits, so that guesses are, too.
	cut := curve(200, func(i int) int { return between(6000*(i%20-10), lo, hi) })
	base, _ := sub.Make(l, sub.Set{Order: 8, Window: window.Hump, Bits: 16})
	for _, s := range []sub.Set{{8, window.Flat, 16}, {8, window.Slope, 16}, {1, window.Hump, 16}, {0, window.Hump, 16}} {
		plan, code := model(l, s)
		makes(t, l, s, plan, code)
		if alike(plan, base) {
			t.Errorf("%v: as with others", s)
		}
	}
	narrow, code := model(cut, sub.Set{Order: 4, Window: window.Flat, Bits: 16})
	makes(t, cut, sub.Set{Order: 4, Window: window.Flat, Bits: 16}, narrow, code)
	wide, code := model(cut, sub.Set{Order: 4, Window: window.Flat, Bits: 20})
	makes(t, cut, sub.Set{Order: 4, Window: window.Flat, Bits: 20}, wide, code)
	if narrow.Bits == wide.Bits {
		t.Error(narrow, wide)
	}
}

// P19.1, P19.2: search's errors in their order; none, if there is no writer, but that.
func TestMakeWrong(t *testing.T) {
	long, loud := make([]int, longest+1), slices.Repeat([]int{1 << 40}, longest+1)
	short := [][]int{nil, {}, {0}, {5, 5, 5}, {1, 2, 3}, {300}, {math.MinInt, math.MaxInt}}
	for _, l := range append(short, long, loud) {
		for _, n := range []int{-1, 33, 64, 1 << 32, 1<<32 + 8, math.MinInt, math.MaxInt} {
			makesNone(t, l, sub.Set{Order: n, Bits: 8}, api.ErrArg)
			makesNone(t, l, sub.Set{Order: 8, Window: windows + n&7, Bits: 8}, api.ErrArg)
			makesNone(t, l, sub.Set{Order: 8, Window: n, Bits: n}, api.ErrArg)
			makesNone(t, l, sub.Set{Order: 8, Window: window.Hump, Bits: n}, api.ErrArg)
		}
		makesNone(t, l, sub.Set{Order: 8, Window: windows, Bits: 8}, api.ErrArg)
		makesNone(t, l, sub.Set{Order: 8, Bits: 0}, api.ErrArg)
		makesNone(t, l, sub.Set{}, api.ErrArg)
	}
	for _, l := range [][]int{long, loud} {
		makesNone(t, l, plain(8), api.ErrLong)
		makesNone(t, l, sub.Set{Order: 32, Window: window.Hump, Bits: 32}, api.ErrLong)
	}
}

// P19.1, P19.2: samples that do not fit, only just, and by far, also if they are all the same.
func TestNoSample(t *testing.T) {
	for bits := 1; bits <= 32; bits++ {
		lo, hi := ends(bits)
		for _, x := range []int{lo - 1, hi + 1, math.MinInt, math.MaxInt} {
			for _, l := range [][]int{{x}, {x, x, x}, {x, 0}, {0, x}, {lo, hi, x, 0}} {
				makesNone(t, l, plain(bits), api.ErrSample)
				makesNone(t, l, sub.Set{Order: 5, Window: window.Hump, Bits: bits}, api.ErrSample)
			}
		}
		for _, l := range [][]int{{lo}, {hi}, {lo, hi}, {hi, hi, lo, 0, lo}, {hi, hi, hi}, {lo, lo, lo}} {
			plan, code := model(l, plain(bits))
			makes(t, l, plain(bits), plan, code)
		}
	}
}

// P19.3: no reader, and numbers of samples and of bits that may not be, whatever stands there.
func TestGetNone(t *testing.T) {
	wrong := []int{-1, -8, -1 << 16, math.MinInt, math.MaxInt, 1<<32 + 1}
	samples, widths := append(wrong, longest+1, 1<<20), append(wrong, 0, 33, 62, 63, 64)
	for _, n := range append(samples, 0, 1, longest) {
		for _, bits := range append(widths, 1, 8, 32) {
			l, p, e := sub.Get(nil, n, bits)
			if e != api.ErrNil || len(l) > 0 || !alike(p, sub.Plan{}) {
				t.Errorf("no reader, %d samples of %d bits: %v, %v, error %d", n, bits, l, p, e)
			}
			if slices.Contains(samples, n) || slices.Contains(widths, bits) {
				for _, s := range []string{"", "0", "11", "01" + strings.Repeat("0", 70), "00" + strings.Repeat("0", 70)} {
					refuses(t, s, n, bits, api.ErrArg)
				}
			}
		}
	}
	refuses(t, "", 0, 1, api.ErrEnd)
	refuses(t, "", longest, 32, api.ErrEnd)
	if l, p, e := sub.Get(&bitio.Reader{}, 0, 8); e != api.ErrEnd || len(l) > 0 || !alike(p, sub.Plan{}) {
		t.Errorf("a reader of nothing: %v, %v, error %d", l, p, e)
	}
}

// P19.3: one sample stands for all, of whatever width; where there is none it is read, but not looked at.
func TestGetStill(t *testing.T) {
	for bits := 1; bits <= 32; bits++ {
		lo, hi := ends(bits)
		for _, x := range []int{lo, -1, 0, hi, lo / 3, hi / 3} {
			for _, n := range []int{0, 1, 2, 3, 100} {
				gets(t, stillCode(x, bits), n, bits, slices.Repeat([]int{x}, n), still(2+bits))
				cutOff(t, stillCode(x, bits), n, bits)
			}
		}
	}
	gets(t, stillCode(-7, 24), longest, 24, slices.Repeat([]int{-7}, longest), still(26))
}

// P19.3: samples as they are, also such as would be shorter otherwise.
func TestGetBare(t *testing.T) {
	x := noise(4)
	for bits := 1; bits <= 32; bits++ {
		lo, hi := ends(bits)
		for _, l := range [][]int{nil, {lo}, {hi}, {0, 0, 0}, {-1, -1}, {lo, hi, lo}, x.list(10, bits), x.samples(20, bits)} {
			gets(t, bareCode(l, bits), len(l), bits, l, bare(2+len(l)*bits))
			cutOff(t, bareCode(l, bits), len(l), bits)
		}
	}
	refuses(t, "01"+strings.Repeat("0", 1000), longest, 1, api.ErrEnd)
}

// P19.3: samples that are guessed by whatever choice, with whatever order, also such as would be shorter otherwise.
func TestGetGuessed(t *testing.T) {
	x := noise(5)
	choices := []search.Choice{fixed(0), fixed(1), fixed(2), fixed(3), fixed(4), of(0), of(0, 1), of(0, 2, -1), of(15, 1<<15-1, -1<<15+1), of(7, 64, -32, 5), of(3, make([]int, 32)...)}
	for bits := 1; bits <= 32; bits++ {
		for _, c := range choices {
			n := x.next(100)
			l := x.samples(max(n, 1), bits)[:n]
			for order := range 7 {
				if order > 0 && n < 1<<order {
					continue
				}
				code := guessedCode(c, l, bits, order)
				gets(t, code, n, bits, l, guessed(c, order, len(code)))
			}
		}
	}
	for _, c := range choices {
		l := x.swing(9, 12)
		for order := range 4 {
			cutOff(t, guessedCode(c, l, 12, order), 9, 12)
		}
		cutOff(t, guessedCode(c, nil, 12, 0), 0, 12)
	}
}

// P19.3: codes that may not be; bits that are missing are told, if they are missing ahead of these.
func TestGetCodes(t *testing.T) {
	zeros := strings.Repeat("0", 80)
	for _, n := range []int{0, 1, 3, longest} {
		refuses(t, "11", n, 8, api.ErrCode)
		refuses(t, "11"+zeros, n, 8, api.ErrCode)
		refuses(t, "1", n, 8, api.ErrEnd)
		// Choices that may not be: a Fixed above 4, too many coefficients, one that is too low.
		for _, c := range []string{"0101", "0110", "0111", "1" + "100001" + "0000" + "0000", "1" + "000001" + "0000" + "1111" + "1000000000000000"} {
			refuses(t, "10"+c, n, 8, api.ErrCode)
			refuses(t, "10"+c+zeros, n, 8, api.ErrCode)
			refuses(t, "10"+c[:len(c)-1], n, 8, api.ErrEnd)
		}
		// An order that no list has, and ways that may not be.
		refuses(t, "10"+"0000"+"111", n, 8, api.ErrCode)
		refuses(t, "10"+"0000"+"11", n, 8, api.ErrEnd)
		for way := 34; way < 64; way++ {
			refuses(t, "10"+"0000"+"000"+digits(way, 6), n, 8, api.ErrCode)
			refuses(t, "10"+"0000"+"000"+digits(way, 6)[:5], n, 8, api.ErrEnd)
		}
	}
	// Orders that so few numbers have not.
	refuses(t, "10"+"0000"+"001"+"011111"+"011111", 0, 8, api.ErrCode)
	refuses(t, "10"+"0000"+"001"+"011111"+"011111", 1, 8, api.ErrCode)
	gets(t, "10"+"0000"+"001"+"011111"+"011111", 2, 8, []int{0, 0}, guessed(fixed(0), 1, 21))
	// A number that is none of a list's: all 41 bits of Raw, and the least number of these.
	refuses(t, "10"+"0000"+"000"+"100001"+"101001"+"1"+strings.Repeat("0", 40), 1, 8, api.ErrCode)
}

// rawCode is the code of samples by a choice, whose guesses leave what may not be left of samples.
func rawCode(c search.Choice, left []int) string {
	return "10" + choiceCode(c) + partCode(left, 0)
}

// P19.3: samples that are restored, and do not fit, only just, or by far; bits that are missing and codes that may not be are told ahead of that.
func TestGetNoSample(t *testing.T) {
	for bits := 1; bits <= 32; bits++ {
		lo, hi := ends(bits)
		for _, x := range []int{lo - 1, hi + 1, -1 << 39, 1<<39 - 1} {
			for _, left := range [][]int{{x}, {0, x}, {x, 0}, {0, 0, x, 0, 0}} {
				code := rawCode(fixed(0), left)
				refuses(t, code, len(left), bits, api.ErrSample)
				refuses(t, code+"1", len(left), bits, api.ErrSample)
				cutOff(t, code, len(left), bits)
			}
			// The last part's way is none.
			refuses(t, "10"+"0000"+"001"+partCode([]int{x}, 0)[3:]+"111111", 2, bits, api.ErrCode)
		}
		for _, x := range []int{lo, hi} {
			gets(t, rawCode(fixed(0), []int{x, 0}), 2, bits, []int{x, 0}, guessed(fixed(0), 0, len(rawCode(fixed(0), []int{x, 0}))))
		}
		if bits > 1 {
			// Each as the one ahead of it, and one more: too far behind the greatest sample.
			refuses(t, rawCode(fixed(1), []int{hi, 1}), 2, bits, api.ErrSample)
			refuses(t, rawCode(fixed(1), []int{lo, -1}), 2, bits, api.ErrSample)
			// No guess goes that far: the guess behind the two is cut off at the greatest sample.
			code := rawCode(fixed(2), []int{hi - 1, hi - min(2*hi-2, hi), 0})
			gets(t, code, 3, bits, []int{hi - 1, hi, hi}, guessed(fixed(2), 0, len(code)))
		}
	}
}

// readOf is what a row of bits says, read piece by piece; of a choice and a list as their layers do.
func readOf(row string, n, bits int) ([]int, sub.Plan, api.Errno) {
	at := 0
	sample := func() (int, bool) {
		if at += bits; at > len(row) {
			return 0, false
		}
		v, _ := strconv.ParseInt("0"+row[at-bits:at], 2, 64)
		if row[at-bits] == '1' {
			v -= 1 << bits
		}
		return int(v), true
	}
	if len(row) < 2 {
		return nil, sub.Plan{}, api.ErrEnd
	}
	at = 2
	var l []int
	switch row[:2] {
	case "00":
		x, ok := sample()
		if !ok {
			return nil, sub.Plan{}, api.ErrEnd
		}
		for range n {
			l = append(l, x)
		}
		return l, still(at), api.OK
	case "01":
		for range n {
			x, ok := sample()
			if !ok {
				return nil, sub.Plan{}, api.ErrEnd
			}
			l = append(l, x)
		}
		return l, bare(at), api.OK
	case "11":
		return nil, sub.Plan{}, api.ErrCode
	}
	r := reader(row[2:])
	c, e := search.Get(r)
	if e != api.OK {
		return nil, sub.Plan{}, e
	}
	left, order, e := part.Get(r, n)
	if e != api.OK {
		return nil, sub.Plan{}, e
	}
	for _, x := range left {
		ahead, _ := predict.Guess(c.Predictor, l, bits)
		if x += ahead; !fits(x, bits) {
			return nil, sub.Plan{}, api.ErrSample
		}
		l = append(l, x)
	}
	return l, guessed(c, order, len(row)-r.Left()), api.OK
}

// asRead fails, if something else is got of these bits than they say.
func asRead(t *testing.T, row string, n, bits int) (sub.Plan, api.Errno) {
	t.Helper()
	want, plan, wantErr := readOf(row, n, bits)
	r := reader(row)
	from := r.At()
	l, p, e := sub.Get(r, n, bits)
	if e != wantErr || !slices.Equal(l, want) || !alike(p, plan) {
		t.Fatalf("%d samples of %d bits of %s: %v, %v, error %d, not %v, %v, error %d", n, bits, row, l, p, e, want, plan, wantErr)
	}
	if e == api.OK && r.At()-from != p.Bits {
		t.Fatalf("%d samples of %d bits of %s: %d bits, not %d", n, bits, row, p.Bits, r.At()-from)
	}
	return p, e
}

// P19.3: all rows of few bits.
func TestShortRows(t *testing.T) {
	for long := range 16 {
		for number := range 1 << long {
			row := digits(number, long)
			asRead(t, row, number%4, 1+number%3)
			asRead(t, row, 1+long%2, 4)
		}
	}
}

// P19.3: whatever bits, and codes of which one bit is another one.
func TestWhateverBits(t *testing.T) {
	x, errs, kinds := noise(6), make(map[api.Errno]int), make(map[int]int)
	note := func(p sub.Plan, e api.Errno) {
		errs[e]++
		if e == api.OK {
			kinds[p.Kind]++
		}
	}
	for range 20000 {
		var s strings.Builder
		for range x.next(12) {
			s.WriteString(strings.Repeat(strconv.Itoa(x.next(2)), x.next(20)))
		}
		note(asRead(t, s.String(), x.next(9), 1+x.next(32)))
		note(asRead(t, "10"+digits(x.number(64), x.next(60)), x.next(5), 1+x.next(16)))
		note(asRead(t, "01"+digits(x.number(64), x.next(60)), x.next(5), 1+x.next(16)))
		bits := 1 + x.next(32)
		l := x.samples(1+x.next(20), bits)
		code := []byte(guessedCode(fixed(x.next(5)), l, bits, 0))
		code[2+x.next(len(code)-2)] ^= 1
		note(asRead(t, string(code), len(l), bits))
	}
	for _, e := range []api.Errno{api.OK, api.ErrEnd, api.ErrCode, api.ErrSample} {
		if errs[e] < 500 {
			t.Error(errs)
		}
	}
	for kind := range 3 {
		if kinds[kind] < 500 {
			t.Error(kinds)
		}
	}
}

// P19.2, P19.4: channels one behind the other, in one writer.
func TestThereAndBack(t *testing.T) {
	x := noise(7)
	for range 200 {
		w := &bitio.Writer{}
		var lists [][]int
		var sets []sub.Set
		var plans []sub.Plan
		for range 1 + x.next(8) {
			bits := 1 + x.next(32)
			l, s := x.samples(1+x.next(100), bits), x.set(bits)
			if x.next(10) == 0 {
				l = nil
			}
			from := w.Len()
			p, e := sub.Put(w, l, s)
			if e != api.OK || w.Len()-from != p.Bits || p.Bits > 2+len(l)*bits {
				t.Fatal(p, e, w.Len()-from)
			}
			lists, sets, plans = append(lists, l), append(sets, s), append(plans, p)
		}
		r := bitio.Read(w.Bytes())
		for i, want := range lists {
			l, p, e := sub.Get(r, len(want), sets[i].Bits)
			if e != api.OK || !slices.Equal(l, want) || !alike(p, plans[i]) {
				t.Fatal(l, p, e, want, plans[i])
			}
		}
	}
}

// P19.1 to P19.5: as many samples as there may be.
func TestLongChannels(t *testing.T) {
	x := noise(8)
	for i, l := range [][]int{x.swing(longest, 24), x.list(longest, 24), make([]int, longest), slices.Repeat([]int{-9}, longest)} {
		s := sub.Set{Order: 4 + 28*(i%2), Window: window.Hump, Bits: 24}
		plan, code := model(l, s)
		makes(t, l, s, plan, code)
		if want := []int{2, 1, 2, 0}[i]; plan.Kind != want || plan.Bits > 2+24*longest {
			t.Error(plan, want)
		}
	}
}

// P19.1 to P19.3: what is answered is new memory, made anew each time.
func TestAnswersAreNew(t *testing.T) {
	x := noise(9)
	spoil := func(l []int, p sub.Plan) {
		for _, l := range [][]int{l, p.Choice.Predictor.Coefs} {
			for i := range l {
				l[i] = 99
			}
			_ = append(l[:0], 98)
		}
	}
	for _, l := range [][]int{x.swing(200, 16), curve(100, func(i int) int { return 50 * i }), {7, 7, 7}, {9000, -9000}} {
		s := sub.Set{Order: 9, Window: window.Slope, Bits: 16}
		kept := slices.Clone(l)
		want, code := model(l, s)
		bits := packed(code)
		for range 2 {
			p, e := sub.Make(l, s)
			if e != api.OK || !alike(p, want) {
				t.Fatal(p, e)
			}
			spoil(nil, p)
			w := &bitio.Writer{}
			p, e = sub.Put(w, l, s)
			spoil(nil, p)
			if e != api.OK || !bytes.Equal(w.Bytes(), bits) {
				t.Fatal(e, text(w))
			}
			got, p, e := sub.Get(bitio.Read(bits), len(l), 16)
			if e != api.OK || !slices.Equal(got, kept) || !alike(p, want) {
				t.Fatal(got, p, e)
			}
			spoil(got, p)
		}
		if !slices.Equal(l, kept) {
			t.Error("what was handed in is answered")
		}
	}
}
