package rate_test

import (
	"bytes"
	"math"
	"math/big"
	"slices"
	"testing"

	"descant/api"
	"descant/block"
	"descant/rate"
	"descant/search"
	"descant/window"
)

const (
	told       = -1      // Fixed of a choice that is told
	longest    = 1 << 16 // samples of a channel, at the most
	mostBudget = 1 << 50 // where a budget stops of which a tank is asked
	mostBits   = 1 << 51 // where bits stop that are spent
)

// noise is numbers that look like chance, and are the same ones at each run.
type noise uint64

func (x *noise) next(n int) int {
	*x = *x*6364136223846793005 + 1442695040888963407
	return int(*x >> 33 % noise(n))
}

// number is a number of so many bits, up to 64.
func (x *noise) number(bits int) int {
	return (x.next(1<<31)<<33 ^ x.next(1<<31)<<13 ^ x.next(1<<31)) >> (64 - bits)
}

// list is n numbers of so many bits.
func (x *noise) list(n, bits int) []int {
	l := make([]int, n)
	for i := range l {
		l[i] = x.number(bits)
	}
	return l
}

// swing is n numbers of so many bits, each near to what the two ahead of it say.
func (x *noise) swing(n, bits int) []int {
	lo, hi := ends(bits)
	l := x.list(n, bits-5)
	for i := 2; i < n; i++ {
		l[i] = min(max(l[i]+(14*l[i-1]-7*l[i-2])/8, lo), hi)
	}
	return l
}

// samples is n numbers of so many bits, of one of the kinds that there are.
func (x *noise) samples(n, bits int) []int {
	switch x.next(5) {
	case 0:
		return x.list(n, bits)
	case 1:
		return slices.Repeat(x.list(1, bits), n)
	case 2:
		l := slices.Repeat(x.list(1, bits), n)
		l[x.next(n)] = x.number(bits)
		return l
	}
	return x.swing(n, bits)
}

// format is a right one.
func (x *noise) format() api.Format {
	return api.Format{
		Channels: 1 + x.next(api.MaxChannels),
		Bits:     api.MinBits + x.next(api.MaxBits-api.MinBits+1),
		Rate:     1 + x.next(api.MaxRate),
	}
}

// sound is n frames.
func (x *noise) sound(f api.Format, n int) api.Sound {
	s := api.Sound{Format: f}
	for range f.Channels {
		s.Samples = append(s.Samples, x.samples(n, f.Bits))
	}
	return s
}

// choice is one that needs no telling, or one with a few coefficients, or with many.
func (x *noise) choice() search.Choice {
	if x.next(3) > 0 {
		return fixed(x.next(5))
	}
	c := of(x.next(api.MaxShift+1), x.list(x.next(api.MaxOrder+1), 1+x.next(16))...)
	for i, w := range c.Predictor.Coefs {
		c.Predictor.Coefs[i] = max(w, -api.MaxCoef)
	}
	return c
}

// choices are n of them.
func (x *noise) choices(n int) []search.Choice {
	l := make([]search.Choice, n)
	for i := range l {
		l[i] = x.choice()
	}
	return l
}

// ends are the least and the greatest number of so many bits.
func ends(bits int) (int, int) {
	return -1 << (bits - 1), 1<<(bits-1) - 1
}

// fixed is a choice that needs no telling.
func fixed(order int) search.Choice {
	coefs := [][]int{{}, {1}, {2, -1}, {3, -3, 1}, {4, -6, 4, -1}}
	return search.Choice{Fixed: order, Predictor: api.Predictor{Coefs: coefs[order]}}
}

// of is a choice that is told.
func of(shift int, coefs ...int) search.Choice {
	return search.Choice{Fixed: told, Predictor: api.Predictor{Coefs: coefs, Shift: shift}}
}

// sounds is sound of lists of so many bits, one of each channel.
func sounds(bits int, lists ...[]int) api.Sound {
	return api.Sound{Format: api.Format{Channels: len(lists), Bits: bits, Rate: 8000}, Samples: lists}
}

// kept is a copy of sound, and of all its lists.
func kept(s api.Sound) api.Sound {
	k := api.Sound{Format: s.Format}
	for _, l := range s.Samples {
		k.Samples = append(k.Samples, slices.Clone(l))
	}
	return k
}

// keptChoices is a copy of choices, and of all their lists.
func keptChoices(cs []search.Choice) []search.Choice {
	l := slices.Clone(cs)
	for i, c := range l {
		l[i].Predictor.Coefs = slices.Clone(c.Predictor.Coefs)
	}
	return l
}

// keptPick is a copy of what comes of a step.
func keptPick(p rate.Pick) rate.Pick {
	return rate.Pick{Step: p.Step, Last: p.Last, Payload: bytes.Clone(p.Payload), Sound: kept(p.Sound)}
}

// same tells whether two sounds are the same.
func same(a, b api.Sound) bool {
	return a.Format == b.Format && slices.EqualFunc(a.Samples, b.Samples, slices.Equal[[]int])
}

// alike tells whether two choices are the same.
func alike(a, b search.Choice) bool {
	return a.Fixed == b.Fixed && a.Predictor.Shift == b.Predictor.Shift && slices.Equal(a.Predictor.Coefs, b.Predictor.Coefs)
}

// samePick tells whether the same comes of two steps.
func samePick(a, b rate.Pick) bool {
	return a.Step == b.Step && a.Last == b.Last && bytes.Equal(a.Payload, b.Payload) && same(a.Sound, b.Sound)
}

// rungs are all numbers 2^k and 3 times 2^k up to 2^(bits - 1), rising.
func rungs(bits int) []int {
	var l []int
	for q := 1; q <= 1<<(bits-1); q *= 2 {
		l = append(l, q)
		if 3*q <= 1<<(bits-1) {
			l = append(l, 3*q)
		}
	}
	slices.Sort(l)
	return l
}

// all is what comes of each step, rising.
func all(t *testing.T, s api.Sound, cs []search.Choice, shape int) []rate.Pick {
	t.Helper()
	var l []rate.Pick
	for _, q := range rungs(s.Format.Bits) {
		b, heard, e := block.Base(s, cs, q, shape)
		if e != api.OK {
			t.Fatalf("%v, step %d, shape %d: error %d", s, q, shape, e)
		}
		l = append(l, rate.Pick{Step: q, Payload: b, Sound: heard})
	}
	return l
}

// first is that of all picks, rising, which is to be told.
func first(l []rate.Pick, allow int) rate.Pick {
	for _, p := range l {
		if len(p.Payload)*8 <= allow {
			return p
		}
	}
	p := l[len(l)-1]
	p.Last = true
	return p
}

// edges are numbers of bits that are as many as a payload has, or next to that, or anything else.
func edges(l []rate.Pick) []int {
	bits := []int{math.MinInt, -1 << 32, -1, 0, 1, 1 << 32, 1 << 62, math.MaxInt}
	for _, p := range l {
		n := 8 * len(p.Payload)
		bits = append(bits, n-1, n)
	}
	slices.Sort(bits)
	return slices.Compact(bits)
}

// fits fails, if another pick is told, or what is handed in changes, or is kept.
func fits(t *testing.T, s api.Sound, cs []search.Choice, shape, allow int, want rate.Pick) {
	t.Helper()
	was, choices := kept(s), keptChoices(cs)
	p, e := rate.Fit(s, cs, shape, allow)
	if e != api.OK || !samePick(p, want) {
		t.Fatalf("%v, %v, shape %d, allow %d: %v, error %d, not %v", s, cs, shape, allow, p, e, want)
	}
	if !same(s, was) || !slices.EqualFunc(cs, choices, alike) {
		t.Fatal("what was handed in has changed")
	}
}

// fitsNone fails, if a pick is told, or there is another error.
func fitsNone(t *testing.T, s api.Sound, cs []search.Choice, shape, allow int, want api.Errno) {
	t.Helper()
	p, e := rate.Fit(s, cs, shape, allow)
	if e != want || !samePick(p, rate.Pick{}) {
		t.Errorf("%v, %v, shape %d, allow %d: %v, error %d, not %d", s.Format, cs, shape, allow, p, e, want)
	}
}

// P24.1: what a second's bits come to.
func TestBudgetByHand(t *testing.T) {
	for _, c := range []struct{ target, rate, n, want int }{
		{64000, 8000, 256, 2048},
		{64000, 8000, 0, 0},
		{64000, 8000, 1, 8},
		{1, 1, 1, 1},
		{1, 1, longest, longest},
		{1, 2, 1, 0},
		{1, 2, 2, 1},
		{1, 2, 3, 1},
		{7, 3, 2, 4},
		{7, 3, 3, 7},
		{1, api.MaxRate, longest, 0},
		{16, api.MaxRate, longest, 1},
		{17, api.MaxRate, longest, 1},
		{api.MaxTarget, 1, longest, 1 << 46},
		{api.MaxTarget, 1, longest - 1, 1<<46 - 1<<30},
		{api.MaxTarget, api.MaxRate, 1, 1024},
		{api.MaxTarget, api.MaxRate, longest, 1<<26 + 64},
		{1 << 30, 3, 3, 1 << 30},
		{1 << 30, 3, 1, 357913941},
		{1411200, 44100, 4096, 131072},
		{128000, 44100, 4096, 11888},
	} {
		if b, e := rate.Budget(c.target, c.rate, c.n); b != c.want || e != api.OK {
			t.Errorf("%v: %d, error %d", c, b, e)
		}
	}
}

// P24.1: in numbers without end, and which arguments may not be.
func TestBudget(t *testing.T) {
	check := func(target, per, n int) {
		t.Helper()
		isRight := target > 0 && target <= 1<<30 && per > 0 && per < 1<<20 && n >= 0 && n <= 1<<16
		b, e := rate.Budget(target, per, n)
		if !isRight {
			if b != 0 || e != api.ErrArg {
				t.Errorf("%d, %d, %d: %d, error %d", target, per, n, b, e)
			}
			return
		}
		want := new(big.Int).Mul(big.NewInt(int64(target)), big.NewInt(int64(n)))
		want.Div(want, big.NewInt(int64(per)))
		if e != api.OK || want.Cmp(big.NewInt(int64(b))) != 0 {
			t.Errorf("%d, %d, %d: %d, error %d, not %v", target, per, n, b, e, want)
		}
	}
	far := []int{math.MinInt, -1 << 32, -1, 0, 1, 2, 1<<32 + 1, math.MaxInt}
	for _, target := range append(far, 1<<30-1, 1<<30, 1<<30+1) {
		for _, per := range append(far, 1<<20-2, 1<<20-1, 1<<20) {
			for _, n := range append(far, 1<<16-1, 1<<16, 1<<16+1) {
				check(target, per, n)
			}
		}
	}
	x := noise(1)
	for range 20000 {
		check(1+x.next(1<<x.next(31)), 1+x.next(1<<x.next(20)), x.next(1<<x.next(17)+1))
	}
}

// P24.2: which tanks there are; each holds nothing at first.
func TestNew(t *testing.T) {
	for _, most := range []int{0, 1, 2, 1000, 1<<30 - 1, 1 << 30} {
		tank, e := rate.New(most)
		if e != api.OK || tank == nil {
			t.Fatalf("%d: %v, error %d", most, tank, e)
		}
		if tank.Level() != 0 || tank.Allow(0) != 0 || tank.Allow(5) != 5 {
			t.Errorf("%d: %d", most, tank.Level())
		}
		tank.Spend(math.MaxInt, 0)
		if tank.Level() != most {
			t.Errorf("%d: %d", most, tank.Level())
		}
	}
	for _, most := range []int{math.MinInt, -1 << 32, -1, 1<<30 + 1, 1 << 32, math.MaxInt} {
		if tank, e := rate.New(most); e != api.ErrArg || tank != nil {
			t.Errorf("%d: %v, error %d", most, tank, e)
		}
	}
}

// P24.2: what a tank holds, by hand.
func TestTankByHand(t *testing.T) {
	tank, _ := rate.New(100)
	for i, c := range []struct{ budget, bits, allow, level int }{
		{50, 20, 50, 30},
		{50, 80, 80, 0},
		{50, 49, 50, 1},
		{0, 0, 1, 1},
		{0, 1, 1, 0},
		{99, 0, 99, 99},
		{1, 0, 100, 100},
		{1, 0, 101, 100},
		{1000, 0, 1100, 100},
		{10, 60, 110, 50},
		// More than there was leaves nothing, and no debt.
		{10, 61, 60, 0},
		{70, 0, 70, 70},
		{10, 1000, 80, 0},
		{70, 0, 70, 70},
		// Below 0 both are 0.
		{-5, 0, 70, 70},
		{-5, -5, 70, 70},
		{0, -5, 70, 70},
		{math.MinInt, math.MinInt, 70, 70},
		{5, math.MinInt, 75, 75},
		{math.MinInt, 5, 75, 70},
		// Beyond their ends both stop.
		{mostBudget, mostBudget, mostBudget + 70, 70},
		{mostBudget + 1, mostBudget, mostBudget + 70, 70},
		{math.MaxInt, mostBudget, mostBudget + 70, 70},
		{math.MaxInt, mostBudget + 1, mostBudget + 70, 69},
		{mostBudget - 1, mostBudget, mostBudget + 68, 68},
		{math.MaxInt, mostBudget + 67, mostBudget + 68, 1},
		{math.MaxInt, mostBudget - 99, mostBudget + 1, 100},
		{math.MaxInt, mostBits, mostBudget + 100, 0},
		{math.MaxInt, 0, mostBudget, 100},
		{math.MaxInt, mostBits + 1, mostBudget + 100, 0},
		{math.MaxInt, math.MinInt, mostBudget, 100},
		{math.MaxInt, math.MaxInt, mostBudget + 100, 0},
		{1, 0, 1, 1},
		{math.MinInt, math.MaxInt, 1, 0},
	} {
		if a := tank.Allow(c.budget); a != c.allow {
			t.Fatalf("%d: %d, not %d", i, a, c.allow)
		}
		tank.Spend(c.budget, c.bits)
		if l := tank.Level(); l != c.level {
			t.Fatalf("%d: %d, not %d", i, l, c.level)
		}
	}
}

// between is a number without end, or the end that it is beyond.
func between(x *big.Int, lo, hi int64) *big.Int {
	switch {
	case x.Cmp(big.NewInt(lo)) < 0:
		return big.NewInt(lo)
	case x.Cmp(big.NewInt(hi)) > 0:
		return big.NewInt(hi)
	}
	return x
}

// whichever is any number, often one of those at an end.
func (x *noise) whichever() int {
	far := []int{math.MinInt, -1, 0, 1, 1 << 30, mostBudget, mostBits, 1 << 62, math.MaxInt}
	switch x.next(3) {
	case 0:
		return far[x.next(len(far))] + x.next(3) - 1
	case 1:
		return x.number(64)
	}
	return x.next(1 << x.next(31))
}

// P24.2, P24.4: what a tank holds, in numbers without end: from 0 to most, whatever is spent.
func TestTank(t *testing.T) {
	x := noise(2)
	for range 300 {
		most := x.next(1<<x.next(31) + 1)
		if x.next(4) == 0 {
			most = 1 << 30
		}
		tank, _ := rate.New(most)
		level := new(big.Int)
		for range 60 {
			budget, bits := x.whichever(), x.whichever()
			if x.next(3) == 0 {
				bits = budget - x.next(1000)
			}
			allow := between(big.NewInt(int64(budget)), 0, mostBudget)
			allow = new(big.Int).Add(allow, level)
			for range 1 + x.next(2) {
				if a := tank.Allow(budget); big.NewInt(int64(a)).Cmp(allow) != 0 {
					t.Fatalf("most %d, level %v, budget %d: %d, not %v", most, level, budget, a, allow)
				}
			}
			less := between(big.NewInt(int64(bits)), 0, mostBits)
			was := level
			level = between(new(big.Int).Sub(allow, less), 0, int64(most))
			tank.Spend(budget, bits)
			for range 1 + x.next(2) {
				if l := tank.Level(); big.NewInt(int64(l)).Cmp(level) != 0 {
					t.Fatalf("most %d, level %v, budget %d, bits %d: %d, not %v", most, was, budget, bits, l, level)
				}
			}
		}
	}
}

// P24.2: of nil 0, and nothing is done; a tank that New did not make holds nothing.
func TestNoTank(t *testing.T) {
	var none *rate.Tank
	for _, tank := range []*rate.Tank{none, {}} {
		for _, budget := range []int{math.MinInt, -1, 0, 1, 1000, mostBudget, math.MaxInt} {
			for _, bits := range []int{math.MinInt, -1, 0, 1, mostBits, math.MaxInt} {
				tank.Spend(budget, bits)
				if l := tank.Level(); l != 0 {
					t.Errorf("%d, %d: %d", budget, bits, l)
				}
			}
		}
	}
	for _, budget := range []int{math.MinInt, -1, 0, 1, 1000, mostBudget, math.MaxInt} {
		if a := none.Allow(budget); a != 0 {
			t.Errorf("%d: %d", budget, a)
		}
	}
}

// P24.2: tanks do not know of each other.
func TestTanks(t *testing.T) {
	a, _ := rate.New(10)
	b, _ := rate.New(1000)
	a.Spend(500, 0)
	b.Spend(500, 0)
	c, _ := rate.New(5)
	b.Spend(0, 100)
	if a.Level() != 10 || b.Level() != 400 || c.Level() != 0 {
		t.Error(a.Level(), b.Level(), c.Level())
	}
}

// packed is texts of eight bits, as bytes.
func packed(texts ...string) []byte {
	var b []byte
	for _, s := range texts {
		v := 0
		for _, c := range s {
			v = 2*v + int(c-'0')
		}
		b = append(b, byte(v))
	}
	return b
}

// fitting is a pick that is told with numbers of bits from one to another.
type fitting struct {
	least, most int
	pick        rate.Pick
}

// tellsEach fails, if another pick is told with any number of bits.
func tellsEach(t *testing.T, s api.Sound, cs []search.Choice, shape int, l []fitting) {
	t.Helper()
	for _, c := range l {
		for _, allow := range []int{c.least, c.least + 1, c.least/2 + c.most/2, c.most - 1, c.most} {
			fits(t, s, cs, shape, allow, c.pick)
		}
	}
}

// P24.3: payloads by hand: {10, 21, 30} of 16 bits, each guessed as the one ahead of it.
func TestFitByHand(t *testing.T) {
	s, cs := sounds(16, []int{10, 21, 30}), []search.Choice{fixed(1)}
	heard := func(l ...int) api.Sound { return sounds(16, l) }
	tellsEach(t, s, cs, 0, []fitting{
		// 10, 0001, and 000: levels 10, 11, 9, by rests of three bits.
		{40, math.MaxInt, rate.Pick{Step: 1, Payload: packed("10000100", "00000111", "10100110", "11011001", "00000000"), Sound: heard(10, 21, 30)}},
		// Levels 5, 6, 4, in four bits each.
		{32, 39, rate.Pick{Step: 2, Payload: packed("10000100", "00000111", "00101010", "01000000"), Sound: heard(10, 22, 30)}},
		// Levels 1, 1, 1, of which each is 110 with no rest.
		{24, 31, rate.Pick{Step: 12, Payload: packed("10000100", "00000001", "10110110"), Sound: heard(12, 24, 36)}},
		// Levels 0, 0, 0: nothing but noughts.
		{16, 23, rate.Pick{Step: 64, Payload: packed("10000100", "00111110"), Sound: heard(0, 0, 0)}},
		// So with the last step, too, but that is too much.
		{math.MinInt, 15, rate.Pick{Step: 1 << 15, Last: true, Payload: packed("10000100", "00111110"), Sound: heard(0, 0, 0)}},
	})
	// Where all samples are the same, no step makes less of them.
	tellsEach(t, sounds(8, []int{5, 5}, []int{-1, -1}), []search.Choice{fixed(0), fixed(4)}, 3, []fitting{
		{24, math.MaxInt, rate.Pick{Step: 1, Payload: packed("00000001", "01001111", "11110000"), Sound: sounds(8, []int{5, 5}, []int{-1, -1})}},
		{math.MinInt, 23, rate.Pick{Step: 128, Last: true, Payload: packed("00000001", "01001111", "11110000"), Sound: sounds(8, []int{5, 5}, []int{-1, -1})}},
	})
}

// P24.3: the last step of the ladder may be the first one that fits: then Last is not told.
func TestLastStepFits(t *testing.T) {
	s, cs := sounds(8, []int{100, -100, 50, -20, 10}), []search.Choice{fixed(0)}
	pick := rate.Pick{Step: 128, Payload: packed("10000000", "00000001", "10100000"), Sound: sounds(8, []int{127, -128, 0, 0, 0})}
	last := pick
	last.Last = true
	wider := rate.Pick{Step: 32, Payload: packed("10000000", "00000011", "11001101", "11000100"), Sound: sounds(8, []int{96, -96, 64, -32, 0})}
	tellsEach(t, s, cs, 0, []fitting{{32, 39, wider}, {24, 31, pick}, {math.MinInt, 23, last}})
}

// seen is how many picks of which kinds a test has seen.
type seen struct {
	first, between, last, lastFits, longer int
}

// note counts a pick.
func (n *seen) note(p rate.Pick, l []rate.Pick) {
	switch {
	case p.Last:
		n.last++
	case p.Step == 1:
		n.first++
	case p.Step == l[len(l)-1].Step:
		n.lastFits++
	default:
		n.between++
	}
	// A greater step may take more: looking for it half by half would find another one.
	for _, q := range l {
		if q.Step > p.Step && len(q.Payload) > len(p.Payload) {
			n.longer++
			return
		}
	}
}

// P24.3, P24.5, P24.6: whatever sound, by whatever choices, with each number of bits at which another step may be told.
func TestFit(t *testing.T) {
	x, n := noise(3), seen{}
	for i := range 102 {
		f, shape := x.format(), x.next(4)
		f.Bits = api.MinBits + i%17
		if i%3 > 0 {
			f.Channels = 1 + x.next(2)
		}
		s, cs := x.sound(f, 1+x.next(40)), x.choices(f.Channels)
		l := all(t, s, cs, shape)
		was := math.MaxInt
		for _, allow := range edges(l) {
			want := first(l, allow)
			fits(t, s, cs, shape, allow, want)
			n.note(want, l)
			if want.Step > was {
				t.Fatalf("%v: step %d with %d bits, and %d with fewer", s, want.Step, allow, was)
			}
			was = want.Step
		}
	}
	if n.first == 0 || n.between == 0 || n.last == 0 || n.lastFits == 0 || n.longer == 0 {
		t.Error(n)
	}
}

// P24.3: choices that are searched, and the longest blocks.
func TestFitLong(t *testing.T) {
	x := noise(4)
	for _, c := range []struct {
		f api.Format
		n int
	}{
		{api.Format{Channels: 2, Bits: 16, Rate: 44100}, 4096},
		{api.Format{Channels: 1, Bits: 24, Rate: api.MaxRate}, longest},
		{api.Format{Channels: 8, Bits: 8, Rate: 1}, 500},
	} {
		s := api.Sound{Format: c.f}
		for range c.f.Channels {
			s.Samples = append(s.Samples, x.swing(c.n, c.f.Bits))
		}
		cs, e := block.Choices(s, 8, window.Hump)
		if e != api.OK {
			t.Fatal(e)
		}
		for shape := range 2 {
			l := all(t, s, cs, shape)
			for _, at := range []int{0, 5, len(l) / 2, len(l) - 1} {
				bits := 8 * len(l[at].Payload)
				fits(t, s, cs, shape, bits, first(l, bits))
				fits(t, s, cs, shape, bits-1, first(l, bits-1))
			}
		}
	}
}

// P24.3: a payload plays as what is told with it.
func TestFitPlays(t *testing.T) {
	x := noise(5)
	for range 200 {
		f, shape, n := x.format(), x.next(4), 1+x.next(50)
		s, cs := x.sound(f, n), x.choices(f.Channels)
		p, e := rate.Fit(s, cs, shape, x.next(2*n*f.Channels*f.Bits))
		if e != api.OK {
			t.Fatal(e)
		}
		played, e := block.PlayBase(f, p.Payload, n, p.Step, shape)
		if e != api.OK || !same(played, p.Sound) {
			t.Fatalf("%v, %v, shape %d: %v plays as %v, error %d", s, cs, shape, p, played, e)
		}
		if _, e := block.Corr(s, p.Sound, p.Step/2); e != api.OK {
			t.Fatalf("%v, %v, shape %d: %v, error %d", s, cs, shape, p, e)
		}
	}
}

// Rule 3: what is answered shares nothing with what was handed in, nor with another answer.
func TestFitOwns(t *testing.T) {
	x := noise(6)
	for range 60 {
		f, shape := x.format(), x.next(4)
		s, cs := x.sound(f, 2+x.next(20)), x.choices(f.Channels)
		was, choices := kept(s), keptChoices(cs)
		for _, allow := range []int{math.MaxInt, f.Channels * 40, -1} {
			p, _ := rate.Fit(s, cs, shape, allow)
			again, _ := rate.Fit(s, cs, shape, allow)
			before := keptPick(again)
			for i := range p.Payload {
				p.Payload[i] ^= 0xff
			}
			_ = append(p.Payload, 1)
			for c, l := range p.Sound.Samples {
				others := kept(p.Sound)
				for i := range l {
					l[i] ^= 1 << 40
				}
				_ = append(l, 1<<41)
				for o, list := range others.Samples {
					if o != c && !slices.Equal(p.Sound.Samples[o], list) {
						t.Fatalf("the lists %d and %d share something", c, o)
					}
				}
			}
			if !samePick(again, before) || !same(s, was) || !slices.EqualFunc(cs, choices, alike) {
				t.Fatal("answers share something")
			}
		}
		// Nor does what is done to that later on reach an answer.
		p, _ := rate.Fit(s, cs, shape, 1<<20)
		before := keptPick(p)
		for c, l := range s.Samples {
			clear(l)
			clear(cs[c].Predictor.Coefs)
		}
		if !samePick(p, before) {
			t.Fatal("what was handed in is kept")
		}
	}
}

// wrongSounds are such as may not be, and why.
func wrongSounds() map[api.Errno][]api.Sound {
	long, far := make([]int, longest+1), slices.Repeat([]int{128}, longest+1)
	l := map[api.Errno][]api.Sound{
		api.ErrFormat: {{}},
		api.ErrLength: {
			{Format: api.Format{Channels: 1, Bits: 8, Rate: 1}},
			{Format: api.Format{Channels: 2, Bits: 8, Rate: 1}, Samples: [][]int{{1}}},
			{Format: api.Format{Channels: 1, Bits: 8, Rate: 1}, Samples: [][]int{{1}, {1}}},
			sounds(8, []int{1, 2}, []int{1}), sounds(8, []int{1}, []int{1, 2}), sounds(8, []int{300}, nil),
			// No block.
			sounds(8, nil), sounds(24, []int{}, nil), sounds(8, long), sounds(24, long, long),
		},
		api.ErrSample: {sounds(8, []int{128}), sounds(8, []int{1}, []int{-129}), sounds(8, long, far)},
	}
	for bits := api.MinBits; bits <= api.MaxBits; bits++ {
		lo, hi := ends(bits)
		for _, y := range []int{lo - 1, hi + 1, math.MinInt, math.MaxInt} {
			l[api.ErrSample] = append(l[api.ErrSample], sounds(bits, []int{y}), sounds(bits, []int{0, 0}, []int{hi, y}, []int{lo, 0}))
		}
	}
	for _, bits := range []int{math.MinInt, -8, -1, 0, 1, 7, 25, 31, 32, 33, 62, 64, 1<<32 + 8, math.MaxInt} {
		l[api.ErrFormat] = append(l[api.ErrFormat], sounds(bits, []int{0}), sounds(bits, nil), sounds(bits, []int{1 << 50}, nil))
	}
	for _, channels := range []int{math.MinInt, -1, 0, 9, 1<<32 + 1, math.MaxInt} {
		l[api.ErrFormat] = append(l[api.ErrFormat], api.Sound{Format: api.Format{Channels: channels, Bits: 8, Rate: 1}, Samples: [][]int{{1}}})
	}
	for _, per := range []int{math.MinInt, -1, 0, 1 << 20, 1<<32 + 1, math.MaxInt} {
		l[api.ErrFormat] = append(l[api.ErrFormat], api.Sound{Format: api.Format{Channels: 1, Bits: 8, Rate: per}, Samples: [][]int{{1}}})
	}
	return l
}

// P24.3: sound that may not be, whatever else is wrong, and whatever is allowed.
func TestFitWrongSounds(t *testing.T) {
	for want, l := range wrongSounds() {
		for _, s := range l {
			for _, allow := range []int{math.MinInt, -1, 0, 1 << 20, math.MaxInt} {
				fitsNone(t, s, slices.Repeat([]search.Choice{fixed(1)}, max(1, len(s.Samples))), 0, allow, want)
				fitsNone(t, s, nil, 0, allow, want)
				fitsNone(t, s, nil, 4, allow, want)
				fitsNone(t, s, []search.Choice{{Fixed: 9}}, -1, allow, want)
			}
		}
	}
}

// P24.3: choices and kinds of shaping that may not be, whatever is allowed.
func TestFitWrongArguments(t *testing.T) {
	one, two := sounds(8, []int{5, 5}), sounds(24, []int{1, 2, 3}, []int{0, 0, 0})
	wrong := []search.Choice{
		{Fixed: 1}, {Fixed: 5}, {Fixed: -2}, {Fixed: 2, Predictor: api.Predictor{Coefs: []int{2, 1}}},
		{Fixed: 1, Predictor: api.Predictor{Coefs: []int{1}, Shift: 1}},
		of(-1, 1), of(api.MaxShift+1, 1), of(0, api.MaxCoef+1), of(0, -api.MaxCoef-1), of(0, make([]int, api.MaxOrder+1)...),
	}
	for _, allow := range []int{math.MinInt, -1, 0, 16, 1 << 20, math.MaxInt} {
		for _, c := range wrong {
			fitsNone(t, one, []search.Choice{c}, 0, allow, api.ErrArg)
			fitsNone(t, two, []search.Choice{c, fixed(0)}, 3, allow, api.ErrArg)
			fitsNone(t, two, []search.Choice{fixed(4), c}, 1, allow, api.ErrArg)
		}
		for n := range 5 {
			l := slices.Repeat([]search.Choice{fixed(1)}, n)
			if n != 1 {
				fitsNone(t, one, l, 0, allow, api.ErrArg)
			}
			if n != 2 {
				fitsNone(t, two, l, 0, allow, api.ErrArg)
			}
		}
		for _, shape := range []int{math.MinInt, -1, 4, 5, 1 << 32, math.MaxInt} {
			fitsNone(t, one, []search.Choice{fixed(1)}, shape, allow, api.ErrArg)
			fitsNone(t, two, []search.Choice{fixed(1), of(3, 5)}, shape, allow, api.ErrArg)
		}
		// The zero choice may be: it guesses 0.
		zero := make([]search.Choice, 1)
		fits(t, one, zero, 3, allow, first(all(t, one, zero, 3), allow))
	}
}

// P24.4: blocks one behind the other: no payload has more bits than the tank allows, but where Last is told.
func TestBlocks(t *testing.T) {
	x, n, kept := noise(7), seen{}, 0
	for range 25 {
		f, most := x.format(), x.next(3)*x.next(1<<x.next(16))
		f.Channels, f.Rate = 1+x.next(3), 1+x.next(50000)
		target := 1 + x.next(2*f.Rate*f.Channels*f.Bits)
		tank, _ := rate.New(most)
		level := 0
		for range 12 {
			s, cs, shape := x.sound(f, 1+x.next(80)), x.choices(f.Channels), x.next(4)
			budget, e := rate.Budget(target, f.Rate, len(s.Samples[0]))
			if e != api.OK || budget != target*len(s.Samples[0])/f.Rate {
				t.Fatal(budget, e)
			}
			allow := tank.Allow(budget)
			p, e := rate.Fit(s, cs, shape, allow)
			bits := 8 * len(p.Payload)
			if e != api.OK || allow != budget+level || (bits > allow) != p.Last {
				t.Fatalf("%d bits of %d, level %d: %v, error %d", bits, allow, level, p, e)
			}
			n.note(p, all(t, s, cs, shape))
			tank.Spend(budget, bits)
			level = min(max(level+budget-bits, 0), most)
			if tank.Level() != level {
				t.Fatalf("%d bits of %d, most %d: level %d, not %d", bits, allow, most, tank.Level(), level)
			}
			if level > 0 && level < most {
				kept++
			}
		}
	}
	if n.first == 0 || n.between == 0 || n.last == 0 || kept == 0 {
		t.Error(n, kept)
	}
}

// P24.4: what one block leaves another one takes.
func TestTankHelps(t *testing.T) {
	quiet, loud := sounds(16, []int{0, 0, 0}), sounds(16, []int{10, 21, 30})
	cs := []search.Choice{fixed(1)}
	for _, c := range []struct{ most, step int }{{0, 64}, {7, 64}, {8, 12}, {15, 12}, {16, 2}, {1000, 2}} {
		tank, _ := rate.New(c.most)
		// Each quiet block takes 16 bits of its 23: three of them leave 21, or as many as may be kept.
		for range 3 {
			p, _ := rate.Fit(quiet, cs, 0, tank.Allow(23))
			tank.Spend(23, 8*len(p.Payload))
		}
		p, e := rate.Fit(loud, cs, 0, tank.Allow(16))
		if e != api.OK || p.Step != c.step || p.Last {
			t.Errorf("most %d: %v, error %d", c.most, p, e)
		}
	}
}
