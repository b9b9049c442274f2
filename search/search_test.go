package search_test

import (
	"bytes"
	"math"
	"slices"
	"strconv"
	"strings"
	"testing"

	"descant/api"
	"descant/bitio"
	"descant/coef"
	"descant/levin"
	"descant/num"
	"descant/part"
	"descant/predict"
	"descant/search"
	"descant/window"
)

const (
	told    = -1      // Fixed of a choice that is told
	longest = 1 << 16 // samples for which there are candidates
	kinds   = 3       // kinds of windows
)

// noise is numbers that look like chance, and are the same ones at each run.
type noise uint64

func (x *noise) next(n int) int {
	*x = *x*6364136223846793005 + 1442695040888963407
	return int(*x >> 33 % noise(n))
}

// number is a number of so many bits, up to 64.
func (x *noise) number(bits int) int {
	return (x.next(1<<31)<<33 ^ x.next(1<<31)<<13 ^ x.next(1<<31)) >> (64 - bits)
}

// list is n numbers of so many bits.
func (x *noise) list(n, bits int) []int {
	l := make([]int, n)
	for i := range l {
		l[i] = x.number(bits)
	}
	return l
}

// coarse is n numbers of so many bits, many of which are the least or the greatest one.
func (x *noise) coarse(n, bits int) []int {
	l := x.list(n, bits)
	for i := range l {
		switch x.next(4) {
		case 0:
			l[i] = -1 << (bits - 1)
		case 1:
			l[i] = 1<<(bits-1) - 1
		}
	}
	return l
}

// swing is n numbers of so many bits, each near to what some ahead of it say, by so many eighths of each, the last one first; they go no further than they may.
func (x *noise) swing(n, bits int, eighths ...int) []int {
	l := make([]int, n)
	for i := range l {
		next := 0
		for j, part := range eighths {
			if j < i {
				next += part * l[i-1-j]
			}
		}
		lo, hi := num.Range(bits)
		l[i] = num.Clamp(next/8+x.number(max(bits-5, 1)), lo, hi)
	}
	return l
}

// swings is n numbers of so many bits, that are told by the last one, by two, by four or by eight.
func (x *noise) swings(n, bits int) []int {
	switch x.next(4) {
	case 0:
		return x.swing(n, bits, -7)
	case 1:
		return x.swing(n, bits, 14, -7)
	case 2:
		return x.swing(n, bits, 1, 0, 1, -7)
	}
	return x.swing(n, bits, 0, 0, 0, 0, 0, 0, 0, -7)
}

// curve is n numbers, as a rule says.
func curve(n int, rule func(i int) int) []int {
	l := make([]int, n)
	for i := range l {
		l[i] = rule(i)
	}
	return l
}

// hill is n numbers, up and down again; it is so smooth that there are few steps.
func hill(n int) []int {
	return curve(n, func(i int) int { return i * (n - i) })
}

// samples is n numbers of so many bits, of one of the kinds that there are.
func (x *noise) samples(n, bits int) []int {
	switch x.next(8) {
	case 0:
		return x.list(n, bits)
	case 1:
		return x.coarse(n, bits)
	case 2:
		return make([]int, n)
	case 3:
		l := make([]int, n)
		for i := range l {
			if x.next(8) == 0 {
				l[i] = x.number(bits)
			}
		}
		return l
	case 4:
		lo, hi := num.Range(bits)
		a, b, c := x.next(7)-3, x.next(30)-15, x.next(100)-50
		return curve(n, func(i int) int { return num.Clamp(a*i*i+b*i+c, lo, hi) })
	}
	return x.swings(n, bits)
}

// of is a choice that is told.
func of(shift int, coefs ...int) search.Choice {
	return search.Choice{Fixed: told, Predictor: api.Predictor{Coefs: coefs, Shift: shift}}
}

// fixed is a choice that needs no telling.
func fixed(order int) search.Choice {
	coefs := [][]int{{}, {1}, {2, -1}, {3, -3, 1}, {4, -6, 4, -1}}
	return search.Choice{Fixed: order, Predictor: api.Predictor{Coefs: coefs[order]}}
}

// ahead are the candidates that need no telling, and others behind them.
func ahead(others ...search.Choice) []search.Choice {
	return append([]search.Choice{fixed(0), fixed(1), fixed(2), fixed(3), fixed(4)}, others...)
}

// alike tells whether two choices are the same.
func alike(a, b search.Choice) bool {
	return a.Fixed == b.Fixed && a.Predictor.Shift == b.Predictor.Shift && slices.Equal(a.Predictor.Coefs, b.Predictor.Coefs)
}

// ordersOf are the told orders, one by one.
func ordersOf(order int) []int {
	var l []int
	for o := 1; o <= order && order <= 32; o++ {
		if o == 1 || o == 2 || o == 4 || o == 8 || o == 16 || o == order {
			l = append(l, o)
		}
	}
	return l
}

// candidatesOf are the candidates, word by word.
func candidatesOf(l []int, order, kind int) []search.Choice {
	all := ahead()
	weighted, _ := window.Apply(l, kind)
	like, _ := window.Auto(weighted, order)
	for _, step := range levin.Solve(like, order) {
		if slices.Contains(ordersOf(order), len(step.Coefs)) {
			p, _ := coef.Quant(step.Coefs, 13)
			all = append(all, search.Choice{Fixed: told, Predictor: p})
		}
	}
	return all
}

// takesOf is how many bits samples take with a choice, word by word.
func takesOf(c search.Choice, l []int, bits int) int {
	left, _ := predict.Residue(c.Predictor, l, bits)
	least := part.Cost(left, 0)
	for p := 1; p <= 6; p++ {
		if cost := part.Cost(left, p); cost > 0 {
			least = min(least, cost)
		}
	}
	return len(code(c)) + least
}

// bestOf is the first one of the candidates with which samples take least, and how many bits these are.
func bestOf(l []int, order, kind, bits int) (search.Choice, int) {
	all := candidatesOf(l, order, kind)
	best, least := all[0], takesOf(all[0], l, bits)
	for _, c := range all[1:] {
		if takes := takesOf(c, l, bits); takes < least {
			best, least = c, takes
		}
	}
	return best, least
}

// digits are the lowest n bits of x, as a text.
func digits(x, n int) string {
	s := strings.Repeat("0", 64) + strconv.FormatUint(uint64(x)&(1<<n-1), 2)
	return s[len(s)-n:]
}

// need is the least width of which all numbers are; 1 of none.
func need(l []int) int {
	n := 1
	for _, x := range l {
		for x < -1<<(n-1) || x > 1<<(n-1)-1 {
			n++
		}
	}
	return n
}

// wide is a predictor's code, with such a width.
func wide(p api.Predictor, width int) string {
	s := digits(len(p.Coefs), 6) + digits(p.Shift, 4) + digits(width-1, 4)
	for _, c := range p.Coefs {
		s += digits(c, width)
	}
	return s
}

// code is a choice's code, as the words say it.
func code(c search.Choice) string {
	if c.Fixed == told {
		return "1" + wide(c.Predictor, need(c.Predictor.Coefs))
	}
	return "0" + digits(c.Fixed, 3)
}

// packed is a text of bits as bytes, with bits 0 behind.
func packed(s string) []byte {
	s += strings.Repeat("0", (8-len(s)%8)%8)
	b := make([]byte, 0, len(s)/8)
	for ; s != ""; s = s[8:] {
		v, _ := strconv.ParseUint(s[:8], 2, 8)
		b = append(b, byte(v))
	}
	return b
}

// reader is a reader that has the bits of the text, and no other ones: it stands behind bits 1 that fill up the first byte.
func reader(s string) *bitio.Reader {
	ahead := (8 - len(s)%8) % 8
	r := bitio.Read(packed(strings.Repeat("1", ahead) + s))
	r.Get(ahead)
	return r
}

// has fails, if the writer has other bits than those of the text.
func has(t *testing.T, w *bitio.Writer, s string) {
	t.Helper()
	if w.Len() != len(s) || !bytes.Equal(w.Bytes(), packed(s)) {
		t.Fatalf("%d bits %x, not %d bits %x", w.Len(), w.Bytes(), len(s), packed(s))
	}
}

// puts fails, if a choice has another code, or costs something else.
func puts(t *testing.T, c search.Choice, want string) {
	t.Helper()
	kept := slices.Clone(c.Predictor.Coefs)
	w := &bitio.Writer{}
	w.Put(5, 3)
	if e := search.Put(w, c); e != api.OK {
		t.Fatalf("%v: error %d", c, e)
	}
	has(t, w, "101"+want)
	if got := search.Cost(c); got != len(want) {
		t.Fatalf("%v costs %d bits, not %d", c, got, len(want))
	}
	if !slices.Equal(c.Predictor.Coefs, kept) {
		t.Fatal("what was handed in has changed")
	}
}

// gets fails, if something else is got of these bits; with an error nothing else may be told.
func gets(t *testing.T, s string, want search.Choice, wantErr api.Errno) {
	t.Helper()
	c, e := search.Get(reader(s))
	if e != wantErr || !alike(c, want) {
		t.Fatalf("of %s: %v, error %d, not %v, error %d", s, c, e, want, wantErr)
	}
}

// refuses fails, if something is got of these bits.
func refuses(t *testing.T, s string, want api.Errno) {
	t.Helper()
	gets(t, s, search.Choice{}, want)
}

// offers fails, if samples have other candidates.
func offers(t *testing.T, l []int, order, kind int, want []search.Choice) {
	t.Helper()
	kept := slices.Clone(l)
	got, e := search.Candidates(l, order, kind)
	if e != api.OK || !slices.EqualFunc(got, want, alike) {
		t.Fatalf("of %v, order %d, window %d: %v, error %d, not %v", kept, order, kind, got, e, want)
	}
	if !slices.Equal(l, kept) {
		t.Fatal("what was handed in has changed")
	}
}

// chooses fails, if samples have another best choice, or take something else with it.
func chooses(t *testing.T, l []int, order, kind, bits int, want search.Choice, takes int) {
	t.Helper()
	kept := slices.Clone(l)
	got, n, e := search.Best(l, order, kind, bits)
	if e != api.OK || !alike(got, want) || n != takes {
		t.Fatalf("of %v, order %d, window %d, %d bits: %v in %d, error %d, not %v in %d", kept, order, kind, bits, got, n, e, want, takes)
	}
	if !slices.Equal(l, kept) {
		t.Fatal("what was handed in has changed")
	}
}

// chooseNone fails, if samples have a best choice, or another error.
func chooseNone(t *testing.T, l []int, order, kind, bits int, want api.Errno) {
	t.Helper()
	if c, n, e := search.Best(l, order, kind, bits); e != want || n != 0 || !alike(c, search.Choice{}) {
		t.Errorf("%d samples, order %d, window %d, %d bits: %v in %d, error %d, not %d", len(l), order, kind, bits, c, n, e, want)
	}
}

// offerNone fails, if samples have candidates, or another error.
func offerNone(t *testing.T, l []int, order, kind int, want api.Errno) {
	t.Helper()
	if all, e := search.Candidates(l, order, kind); e != want || len(all) > 0 {
		t.Errorf("%d samples, order %d, window %d: %v, error %d, not %d", len(l), order, kind, all, e, want)
	}
}

// P14.1: told orders by hand.
func TestOrders(t *testing.T) {
	for order, want := range map[int][]int{
		1: {1}, 2: {1, 2}, 3: {1, 2, 3}, 4: {1, 2, 4}, 5: {1, 2, 4, 5}, 6: {1, 2, 4, 6}, 7: {1, 2, 4, 7}, 8: {1, 2, 4, 8},
		9: {1, 2, 4, 8, 9}, 15: {1, 2, 4, 8, 15}, 16: {1, 2, 4, 8, 16}, 17: {1, 2, 4, 8, 16, 17}, 31: {1, 2, 4, 8, 16, 31}, 32: {1, 2, 4, 8, 16, 32},
		0: nil, -1: nil, -4: nil, 33: nil, 64: nil, 1 << 32: nil, 1<<32 + 4: nil, math.MinInt: nil, math.MaxInt: nil,
	} {
		if got := search.Orders(order); !slices.Equal(got, want) || !slices.Equal(ordersOf(order), want) {
			t.Errorf("of %d: %v, the model %v, not %v", order, got, ordersOf(order), want)
		}
	}
}

// P14.1: of every order, made anew each time.
func TestAllOrders(t *testing.T) {
	for range 2 {
		for order := -3; order <= 70; order++ {
			got := search.Orders(order)
			if !slices.Equal(got, ordersOf(order)) {
				t.Errorf("of %d: %v, not %v", order, got, ordersOf(order))
			}
			for i := range got {
				got[i] = 99
			}
		}
	}
}

// P14.2: candidates, reckoned by themselves.
func TestCandidates(t *testing.T) {
	wave := []int{10, 20, 25, 22, 9, -8, -20, -25, -18, -3, 12, 23}
	for _, c := range []struct {
		l           []int
		order, kind int
		want        []search.Choice
	}{
		{[]int{1, 2, 3}, 0, window.Flat, ahead()},
		{[]int{1, 2, 3}, 2, window.Flat, ahead(of(12, 2341), of(12, 2731, -683))},
		{wave, 0, window.Hump, ahead()},
		{wave, 1, window.Slope, ahead(of(12, 3158))},
		{wave, 6, window.Slope, ahead(of(12, 3158), of(11, 2965, -1798), of(10, 2327, -2604, 1496, -417), of(10, 2259, -2201, 561, 711, -737, 196))},
		{wave, 3, window.Hump, ahead(of(12, 3133), of(11, 2944, -1801), of(11, 4027, -3571, 1231))},
		{wave, 9, window.Flat, ahead(of(12, 3008), of(11, 2482, -1331), of(11, 2113, -681, -501, -46), of(11, 2097, -673, -515, -170, 86, -112, 136, -233), candidatesOf(wave, 9, window.Flat)[9])},
		// More told orders than samples: those behind the last sample are alike.
		{[]int{5}, 5, window.Flat, ahead(of(15, 0), of(15, 0, 0), of(15, 0, 0, 0, 0), of(15, 0, 0, 0, 0, 0))},
		{[]int{5, 1, -3, 7}, 8, window.Flat, ahead(of(14, -3706), of(13, -2139, -1264), of(13, -2316, -348, 3505, 1724), of(12, -1402, -304, 2289, 1499, 617, -927, -900, -549))},
		// No number is too great.
		{[]int{1 << 62, math.MinInt, math.MaxInt, 0, 5}, 2, window.Flat, ahead(of(12, -2731), of(12, -3823, -1639))},
		// Fewer steps than the order: three, three, six and four.
		{hill(400), 2, window.Hump, ahead(of(11, 2048), of(11, 4092, -2044))},
		{hill(400), 3, window.Hump, ahead(of(11, 2048), of(11, 4092, -2044), of(11, 2505, 1133, -1590))},
		{hill(400), 4, window.Hump, ahead(of(11, 2048), of(11, 4092, -2044))},
		{hill(400), 32, window.Hump, ahead(of(11, 2048), of(11, 4092, -2044))},
		{hill(200), 6, window.Hump, ahead(of(12, 4095), of(11, 4094, -2047), of(10, 2145, -521, -1299, 699), of(11, 2832, 608, -216, -649, -2368, 1841))},
		{hill(200), 7, window.Hump, ahead(of(12, 4095), of(11, 4094, -2047), of(10, 2145, -521, -1299, 699))},
		{hill(200), 8, window.Hump, ahead(of(12, 4095), of(11, 4094, -2047), of(10, 2145, -521, -1299, 699))},
		// None, where samples are 0, or are so when they are weighted.
		{nil, 32, window.Flat, ahead()},
		{make([]int, 40), 32, window.Slope, ahead()},
		{[]int{1, 0, 0, 0}, 32, window.Slope, ahead()},
		{[]int{1, 0, 0, 1}, 2, window.Flat, ahead(of(15, 0), of(15, 0, 0))},
	} {
		offers(t, c.l, c.order, c.kind, c.want)
	}
}

// P14.2: candidates of samples of all kinds, of each order and window, word by word.
func TestAllCandidates(t *testing.T) {
	x, few := noise(1), 0
	for order := range api.MaxOrder + 1 {
		for kind := range kinds {
			for _, l := range [][]int{
				x.samples(x.next(300), 1+x.next(32)), x.swings(100+x.next(200), 16), x.list(x.next(50), 64), x.coarse(x.next(5), 64), hill(100 + x.next(400)),
			} {
				want := candidatesOf(l, order, kind)
				offers(t, l, order, kind, want)
				if len(want) < 5+len(ordersOf(order)) {
					few++
				}
			}
		}
	}
	if few < 60 || few > 300 {
		t.Error(few)
	}
}

// P14.2: what is told needs no more than 13 bits, and some of it just so many; all are choices.
func TestToldBits(t *testing.T) {
	x, wide := noise(2), 0
	for range 200 {
		all, e := search.Candidates(x.samples(50, 16), api.MaxOrder, x.next(kinds))
		if e != api.OK {
			t.Fatal(e)
		}
		for i, c := range all {
			if search.Cost(c) == 0 || (c.Fixed == told) != (i > 4) || need(c.Predictor.Coefs) > 13 {
				t.Fatal(i, c)
			}
			if need(c.Predictor.Coefs) == 13 {
				wide++
			}
		}
	}
	if wide < 200 {
		t.Error(wide)
	}
}

// P14.2, P14.3: orders, windows and bits that may not be, ahead of all else; then too many samples, ahead of samples that do not fit.
func TestWrong(t *testing.T) {
	long := make([]int, longest+1)
	loud := slices.Clone(long)
	loud[longest] = 128
	for _, l := range [][]int{nil, {1, 2, 3}, {math.MaxInt}, long, loud} {
		for _, order := range []int{-1, 33, 64, 1 << 32, math.MinInt, math.MaxInt} {
			for kind := range kinds {
				offerNone(t, l, order, kind, api.ErrArg)
				chooseNone(t, l, order, kind, 8, api.ErrArg)
			}
		}
		for _, kind := range []int{-1, 3, 4, 1 << 32, math.MinInt, math.MaxInt} {
			for _, order := range []int{0, 1, 32} {
				offerNone(t, l, order, kind, api.ErrArg)
				chooseNone(t, l, order, kind, 8, api.ErrArg)
			}
		}
		for _, bits := range []int{0, -1, 33, 62, 64, 1 << 32, math.MinInt, math.MaxInt} {
			chooseNone(t, l, 0, window.Flat, bits, api.ErrArg)
			chooseNone(t, l, 32, window.Hump, bits, api.ErrArg)
		}
	}
	for _, l := range [][]int{long, loud, make([]int, longest+1000)} {
		for _, order := range []int{0, 1, 32} {
			for kind := range kinds {
				offerNone(t, l, order, kind, api.ErrLong)
				chooseNone(t, l, order, kind, 8, api.ErrLong)
			}
		}
	}
}

// P14.3: samples that do not fit, at either end of a list, only just, and by far; these have candidates all the same.
func TestNoSample(t *testing.T) {
	for bits := 1; bits <= 32; bits++ {
		lo, hi := -1<<(bits-1), 1<<(bits-1)-1
		for _, x := range []int{lo - 1, hi + 1, math.MinInt, math.MaxInt} {
			for _, l := range [][]int{{x}, {x, 0}, {0, x}, {lo, hi, x, 0}} {
				chooseNone(t, l, 0, window.Flat, bits, api.ErrSample)
				chooseNone(t, l, 5, window.Hump, bits, api.ErrSample)
				offers(t, l, 5, window.Hump, candidatesOf(l, 5, window.Hump))
			}
		}
		for _, l := range [][]int{{lo}, {hi}, {lo, hi}, {hi, hi, lo, 0, lo}} {
			want, takes := bestOf(l, 5, window.Slope, bits)
			chooses(t, l, 5, window.Slope, bits, want, takes)
		}
	}
}

// P14.3: the best choice, reckoned by itself.
func TestBest(t *testing.T) {
	alternate := curve(40, func(i int) int { return 100 - 200*(i%2) })
	wave := slices.Repeat([]int{10, 20, 25, 22, 9, -8, -20, -25, -18, -3, 12, 23}, 8)
	steep := curve(400, func(i int) int { return i * i * (400 - i) })
	for _, c := range []struct {
		l                 []int
		order, kind, bits int
		want              search.Choice
		takes             int
	}{
		{nil, 4, window.Flat, 8, fixed(0), 13},
		{make([]int, 40), 4, window.Flat, 8, fixed(0), 13},
		// All that need no telling leave the same: the first one of them.
		{[]int{5}, 32, window.Flat, 8, fixed(0), 18},
		{[]int{5, 1, -3, 7}, 8, window.Flat, 8, fixed(0), 31},
		{slices.Repeat([]int{5}, 40), 4, window.Flat, 8, fixed(1), 35},
		{[]int{1, 2, 3}, 0, window.Flat, 8, fixed(2), 18},
		{[]int{1, 2, 3}, 2, window.Flat, 8, fixed(2), 18},
		{hill(400), 32, window.Hump, 17, fixed(3), 61},
		{hill(200), 7, window.Hump, 17, fixed(3), 57},
		{steep, 5, window.Hump, 25, fixed(4), 72},
		{alternate, 0, window.Flat, 8, fixed(0), 339},
		{alternate, 4, window.Flat, 8, of(12, -3994), 221},
		{alternate, 4, window.Slope, 8, of(12, -4081), 172},
		{alternate, 4, window.Hump, 8, of(12, -4083), 172},
		{wave, 8, window.Flat, 8, of(12, 3226), 523},
		{wave, 8, window.Slope, 6, of(12, 3232), 523},
		{wave, 8, window.Hump, 32, of(12, 3243), 523},
	} {
		if want, takes := bestOf(c.l, c.order, c.kind, c.bits); !alike(want, c.want) || takes != c.takes {
			t.Errorf("the model: %v in %d, not %v in %d", want, takes, c.want, c.takes)
		}
		chooses(t, c.l, c.order, c.kind, c.bits, c.want, c.takes)
	}
}

// P14.3: the best choice of samples of all kinds and widths, word by word; each that needs no telling is the best one at times, and so is that of each told order up to 8.
func TestAllBest(t *testing.T) {
	x, won := noise(3), make([]int, 20)
	for bits := 1; bits <= 32; bits++ {
		for range 25 {
			order, kind, l := x.next(api.MaxOrder+1), x.next(kinds), x.samples(x.next(400), bits)
			want, takes := bestOf(l, order, kind, bits)
			chooses(t, l, order, kind, bits, want, takes)
			if want.Fixed != told {
				won[10+want.Fixed]++
			} else if n := len(want.Predictor.Coefs); n < 10 {
				won[n]++
			}
		}
	}
	for _, i := range []int{10, 11, 12, 13, 14, 1, 2, 4, 8} {
		if won[i] == 0 {
			t.Error(i, won)
		}
	}
}

// P14.3: guesses go no further than samples of so many bits: where samples are cut off there, they take more with more bits.
func TestBitsMatter(t *testing.T) {
	more := 0
	for slope := 1; slope <= 60; slope++ {
		l := curve(200, func(i int) int { return num.Clamp(slope*(i%20-10), -128, 127) })
		want, takes := bestOf(l, 8, window.Flat, 8)
		chooses(t, l, 8, window.Flat, 8, want, takes)
		other, takesMore := bestOf(l, 8, window.Flat, 9)
		chooses(t, l, 8, window.Flat, 9, other, takesMore)
		if takesMore > takes {
			more++
		}
	}
	if more < 10 {
		t.Error(more)
	}
}

// P14.2, P14.3: as many samples as there may be.
func TestLongLists(t *testing.T) {
	x := noise(5)
	l := x.swing(longest, 24, 14, -7)
	offers(t, l, api.MaxOrder, window.Hump, candidatesOf(l, api.MaxOrder, window.Hump))
	want, takes := bestOf(l, api.MaxOrder, window.Hump, 24)
	chooses(t, l, api.MaxOrder, window.Hump, 24, want, takes)
	if want.Fixed != told {
		t.Error(want)
	}
}

// P14.2, P14.3, P14.5: what is answered is new memory, made anew each time.
func TestAnswersAreNew(t *testing.T) {
	x := noise(6)
	l := x.swing(100, 16, 14, -7)
	spoil := func(c search.Choice) {
		for i := range c.Predictor.Coefs {
			c.Predictor.Coefs[i] = 99
		}
		_ = append(c.Predictor.Coefs[:0], 98)
	}
	kept, want := slices.Clone(l), candidatesOf(l, 9, window.Slope)
	for range 2 {
		all, _ := search.Candidates(l, 9, window.Slope)
		for i, c := range all {
			if !alike(c, want[i]) {
				t.Fatal(i, c, want[i])
			}
			spoil(c)
		}
		for _, l := range [][]int{l, slices.Repeat([]int{5}, 40), hill(100)} {
			best, takes := bestOf(l, 9, window.Slope, 32)
			c, n, e := search.Best(l, 9, window.Slope, 32)
			if e != api.OK || !alike(c, best) || n != takes {
				t.Fatal(c, n, e)
			}
			spoil(c)
		}
		for i := range 5 {
			c, e := search.Get(reader(code(fixed(i))))
			if e != api.OK || !alike(c, fixed(i)) {
				t.Fatal(c, e)
			}
			spoil(c)
		}
	}
	if !slices.Equal(l, kept) {
		t.Error("what was handed in is answered")
	}
}

// P14.4: codes by hand.
func TestPut(t *testing.T) {
	for order, want := range []string{"0000", "0001", "0010", "0011", "0100"} {
		puts(t, fixed(order), want)
	}
	puts(t, search.Choice{}, "0000")
	puts(t, search.Choice{Predictor: api.Predictor{Coefs: []int{}}}, "0000")
	for _, c := range []struct {
		c    search.Choice
		want string
	}{
		{of(0), "1" + "000000" + "0000" + "0000"},
		{of(15), "1" + "000000" + "1111" + "0000"},
		{of(0, 1), "1" + "000001" + "0000" + "0001" + "01"},
		{of(0, 2, -1), "1" + "000010" + "0000" + "0010" + "010" + "111"},
		{of(7, 64, -32), "1" + "000010" + "0111" + "0111" + "01000000" + "11100000"},
		{of(3, 0, 0, 0), "1" + "000011" + "0011" + "0000" + "000"},
		{of(12, 4095), "1" + "000001" + "1100" + "1100" + "0111111111111"},
		{of(1, -1<<15+1, 1<<15-1), "1" + "000010" + "0001" + "1111" + "1000000000000001" + "0111111111111111"},
		{of(2, make([]int, 32)...), "1" + "100000" + "0010" + "0000" + strings.Repeat("0", 32)},
	} {
		if got := code(c.c); got != c.want {
			t.Errorf("the model of %v: %s, not %s", c.c, got, c.want)
		}
		puts(t, c.c, c.want)
		gets(t, c.want, c.c, api.OK)
	}
}

// strange are no choices.
func strange() []search.Choice {
	l := []search.Choice{
		of(-1), of(16), of(math.MinInt, 1), of(math.MaxInt, 1), of(-1, 5, 6), of(16, 5, 6),
		of(0, 1<<15), of(0, -1<<15), of(0, 0, math.MinInt), of(0, math.MaxInt, 0), of(0, make([]int, 33)...), of(0, make([]int, 1000)...),
	}
	// Predictors of other orders, or of none, and such as are nearly so.
	for order := range 5 {
		for other := range 5 {
			if other != order {
				l = append(l, search.Choice{Fixed: order, Predictor: fixed(other).Predictor})
			}
		}
		p := fixed(order).Predictor
		for _, shift := range []int{1, 15, -1, math.MinInt, math.MaxInt} {
			l = append(l, search.Choice{Fixed: order, Predictor: api.Predictor{Coefs: p.Coefs, Shift: shift}})
		}
		for _, c := range []int{0, 1, -1} {
			l = append(l, search.Choice{Fixed: order, Predictor: api.Predictor{Coefs: append(slices.Clone(p.Coefs), c, 0)}})
		}
		l = append(l, search.Choice{Fixed: order, Predictor: api.Predictor{Coefs: []int{7}}})
	}
	// Other numbers than those from -1 to 4, with predictors of all kinds.
	for _, n := range []int{-2, -3, 5, 6, 7, 8, 32, 1 << 32, 1<<32 - 1, math.MinInt, math.MaxInt} {
		for order := range 5 {
			l = append(l, search.Choice{Fixed: n, Predictor: fixed(order).Predictor})
		}
		l = append(l, search.Choice{Fixed: n, Predictor: of(7, 64, -32).Predictor})
	}
	return l
}

// P14.4: what is no choice costs nothing, and is not written; what is one is not, if there is no writer.
func TestPutWrong(t *testing.T) {
	for _, c := range strange() {
		if got := search.Cost(c); got != 0 {
			t.Errorf("%v costs %d bits", c, got)
		}
		w := &bitio.Writer{}
		w.Put(5, 3)
		if e := search.Put(w, c); e != api.ErrArg {
			t.Errorf("%v: error %d", c, e)
		}
		has(t, w, "101")
		if e := search.Put(nil, c); e != api.ErrNil {
			t.Errorf("%v, no writer: error %d", c, e)
		}
	}
	for _, c := range ahead(of(0), of(7, 64, -32)) {
		if e := search.Put(nil, c); e != api.ErrNil {
			t.Errorf("%v, no writer: error %d", c, e)
		}
	}
}

// P14.5: codes that may not be, and codes that are cut off.
func TestGetWrong(t *testing.T) {
	if c, e := search.Get(nil); e != api.ErrNil || !alike(c, search.Choice{}) {
		t.Errorf("no reader: %v, error %d", c, e)
	}
	refuses(t, "", api.ErrEnd)
	for _, s := range []string{"0101", "0110", "0111"} {
		refuses(t, s, api.ErrCode)
		refuses(t, s+"0000", api.ErrCode)
		refuses(t, s[:3], api.ErrEnd)
	}
	for order := range 5 {
		s := code(fixed(order))
		for n := range len(s) {
			refuses(t, s[:n], api.ErrEnd)
		}
		gets(t, s, fixed(order), api.OK)
		gets(t, s+"1", fixed(order), api.OK)
	}
	for _, c := range []search.Choice{of(0), of(9, 1), of(7, 64, -32), of(15, make([]int, 32)...)} {
		s := code(c)
		for n := range len(s) {
			refuses(t, s[:n], api.ErrEnd)
		}
		gets(t, s, c, api.OK)
		gets(t, s+"0", c, api.OK)
	}
	for count := 33; count < 64; count++ {
		s := "1" + digits(count, 6) + "0000" + "0000"
		refuses(t, s, api.ErrCode)
		refuses(t, s+strings.Repeat("0", 64), api.ErrCode)
		refuses(t, s[:14], api.ErrEnd)
	}
	// A coefficient that is too low is told behind its last bit, also if others are missing.
	low := "1" + "000010" + "0000" + "1111" + "1000000000000000"
	refuses(t, low[:len(low)-1], api.ErrEnd)
	refuses(t, low, api.ErrCode)
	refuses(t, low+strings.Repeat("0", 16), api.ErrCode)
	refuses(t, "1"+"000010"+"0000"+"1111"+"0000000000000000"+"100000000000000", api.ErrEnd)
	refuses(t, "1"+"000010"+"0000"+"1111"+"0000000000000000"+"1000000000000000", api.ErrCode)
}

// P14.5: a predictor of whatever width, also one that would need no telling: it is told all the same.
func TestGetWide(t *testing.T) {
	for _, c := range []search.Choice{of(0), of(0, 1), of(0, 2, -1), of(0, 3, -3, 1), of(0, 4, -6, 4, -1), of(7, 64, -32)} {
		for width := need(c.Predictor.Coefs); width <= 16; width++ {
			gets(t, "1"+wide(c.Predictor, width), c, api.OK)
		}
	}
}

// readOf is what a row of bits says, number by number, and how many bits that takes.
func readOf(s string) (search.Choice, int, api.Errno) {
	at := 0
	next := func(n int) (int, bool) {
		if at+n > len(s) {
			return 0, false
		}
		at += n
		v, _ := strconv.ParseUint("0"+s[at-n:at], 2, 64)
		return int(v), true
	}
	kind, ok := next(1)
	if !ok {
		return search.Choice{}, 0, api.ErrEnd
	}
	if kind == 0 {
		order, ok := next(3)
		switch {
		case !ok:
			return search.Choice{}, 0, api.ErrEnd
		case order > 4:
			return search.Choice{}, 0, api.ErrCode
		}
		return fixed(order), at, api.OK
	}
	count, _ := next(6)
	shift, _ := next(4)
	width, ok := next(4)
	switch {
	case !ok:
		return search.Choice{}, 0, api.ErrEnd
	case count > 32:
		return search.Choice{}, 0, api.ErrCode
	}
	c := of(shift)
	for range count {
		v, ok := next(width + 1)
		if v >= 1<<width {
			v -= 2 << width
		}
		switch {
		case !ok:
			return search.Choice{}, 0, api.ErrEnd
		case v < -api.MaxCoef:
			return search.Choice{}, 0, api.ErrCode
		}
		c.Predictor.Coefs = append(c.Predictor.Coefs, v)
	}
	return c, at, api.OK
}

// P14.5: whatever bits.
func TestWhateverBits(t *testing.T) {
	x, told := noise(7), make(map[api.Errno]int)
	for range 20000 {
		var s strings.Builder
		for range x.next(12) {
			s.WriteString(strings.Repeat(strconv.Itoa(x.next(2)), x.next(30)))
		}
		row := s.String()
		if x.next(2) == 0 {
			row = digits(x.number(64), x.next(60))
		}
		want, long, wantErr := readOf(row)
		r := reader(row)
		from := r.At()
		got, e := search.Get(r)
		if e != wantErr || !alike(got, want) {
			t.Fatalf("of %s: %v, error %d, not %v, error %d", row, got, e, want, wantErr)
		}
		if e == api.OK && r.At()-from != long {
			t.Fatalf("of %s: %d bits, not %d", row, r.At()-from, long)
		}
		told[e]++
	}
	for _, e := range []api.Errno{api.OK, api.ErrEnd, api.ErrCode} {
		if told[e] < 500 {
			t.Error(told)
		}
	}
}

// P14.6: what is put is got, in as many bits as it costs, one behind the other.
func TestThereAndBack(t *testing.T) {
	x := noise(8)
	for range 500 {
		var cs []search.Choice
		w, bits := &bitio.Writer{}, ""
		for range 1 + x.next(8) {
			c := fixed(x.next(5))
			if x.next(2) == 0 {
				c = of(x.next(api.MaxShift+1), x.list(x.next(api.MaxOrder+1), 1+x.next(16))...)
				for i, v := range c.Predictor.Coefs {
					c.Predictor.Coefs[i] = max(v, -api.MaxCoef)
				}
			}
			if e := search.Put(w, c); e != api.OK {
				t.Fatal(c, e)
			}
			bits += code(c)
			cs = append(cs, c)
		}
		has(t, w, bits)
		r := bitio.Read(w.Bytes())
		for _, c := range cs {
			from := r.At()
			got, e := search.Get(r)
			if e != api.OK || !alike(got, c) || r.At()-from != search.Cost(c) {
				t.Fatal(got, e, r.At()-from, c, search.Cost(c))
			}
		}
	}
}

// P14.7: samples that are all 0.
func TestNoughts(t *testing.T) {
	for _, n := range []int{0, 1, 2, 3, 63, 64, 65, 1000, longest} {
		for _, order := range []int{0, 1, 2, 5, 16, 32} {
			for kind := range kinds {
				c, takes, e := search.Best(make([]int, n), order, kind, 1+31*(order%2))
				if e != api.OK || takes > 19 || !alike(c, fixed(0)) {
					t.Errorf("%d noughts, order %d: %v in %d, error %d", n, order, c, takes, e)
				}
			}
		}
	}
}

// P14.7: no candidate takes less than the best one; the best one is one of them, and its code and that of what it leaves, put behind one another, have so many bits.
func TestNoneIsBetter(t *testing.T) {
	x := noise(9)
	for range 300 {
		bits := 1 + x.next(32)
		l, order, kind := x.samples(x.next(200), bits), x.next(api.MaxOrder+1), x.next(kinds)
		best, takes, e := search.Best(l, order, kind, bits)
		all, e2 := search.Candidates(l, order, kind)
		if e != api.OK || e2 != api.OK {
			t.Fatal(e, e2)
		}
		at := slices.IndexFunc(all, func(c search.Choice) bool { return alike(c, best) })
		for i, c := range all {
			if n := takesOf(c, l, bits); n < takes || n == takes && i < at {
				t.Fatalf("%v takes %d, %v %d", c, n, best, takes)
			}
		}
		w := &bitio.Writer{}
		left, _ := predict.Residue(best.Predictor, l, bits)
		p, _ := part.Order(left)
		search.Put(w, best)
		part.Put(w, left, p)
		if at < 0 || w.Len() != takes {
			t.Fatal(at, w.Len(), takes)
		}
	}
}
