package predict_test

import (
	"math"
	"math/big"
	"slices"
	"testing"

	"descant/api"
	"descant/predict"
)

const held = 1 << 62 // where numbers stop

// noise is numbers that look like chance, and are the same ones at each run.
type noise uint64

func (x *noise) next(n int) int {
	*x = *x*6364136223846793005 + 1442695040888963407
	return int(*x >> 33 % noise(n))
}

// number is a number of so many bits, up to 64.
func (x *noise) number(bits int) int {
	return (x.next(1<<31)<<33 ^ x.next(1<<31)<<13 ^ x.next(1<<31)) >> (64 - bits)
}

// list is n numbers of so many bits.
func (x *noise) list(n, bits int) []int {
	l := make([]int, n)
	for i := range l {
		l[i] = x.number(bits)
	}
	return l
}

// coarse is n numbers of so many bits, many of which are the least or the greatest one.
func (x *noise) coarse(n, bits int) []int {
	l := x.list(n, bits)
	for i := range l {
		switch x.next(4) {
		case 0:
			l[i] = -1 << (bits - 1)
		case 1:
			l[i] = 1<<(bits-1) - 1
		}
	}
	return l
}

// predictor is a right one.
func (x *noise) predictor() api.Predictor {
	p := api.Predictor{Coefs: x.list(x.next(api.MaxOrder+1), 1+x.next(16)), Shift: x.next(api.MaxShift + 1)}
	for i, c := range p.Coefs {
		p.Coefs[i] = max(c, -api.MaxCoef)
	}
	return p
}

// of is a predictor.
func of(shift int, coefs ...int) api.Predictor {
	return api.Predictor{Coefs: coefs, Shift: shift}
}

// large is a number without end.
func large(x int) *big.Int {
	return big.NewInt(int64(x))
}

// between is a number, or the end that it is beyond.
func between(x, lo, hi *big.Int) *big.Int {
	switch {
	case x.Cmp(lo) < 0:
		return lo
	case x.Cmp(hi) > 0:
		return hi
	}
	return x
}

// hold is a number, held.
func hold(x *big.Int) *big.Int {
	return between(x, large(-held), large(held))
}

// guessOf is the guess, word by word.
func guessOf(p api.Predictor, past []int, bits int) int {
	sum := large(0)
	for i, c := range p.Coefs {
		sample := large(0)
		if at := len(past) - 1 - i; at >= 0 {
			sample = hold(large(past[at]))
		}
		sum = hold(sum.Add(sum, hold(sample.Mul(sample, large(c)))))
	}
	// Euclid's division is rounded down, as what is divided by is above 0.
	sum = new(big.Int).Div(sum, large(1<<p.Shift))
	return int(between(sum, large(-1<<(bits-1)), large(1<<(bits-1)-1)).Int64())
}

// fits tells whether a number is one of so many bits.
func fits(x *big.Int, bits int) bool {
	return x.Cmp(large(-1<<(bits-1))) >= 0 && x.Cmp(large(1<<(bits-1))) < 0
}

// residueOf is what guesses leave, word by word.
func residueOf(p api.Predictor, l []int, bits int) ([]int, api.Errno) {
	var left []int
	for i, x := range l {
		if !fits(large(x), bits) {
			return nil, api.ErrSample
		}
		left = append(left, x-guessOf(p, l[:i], bits))
	}
	return left, api.OK
}

// restoreOf is the samples of which that was left, word by word.
func restoreOf(p api.Predictor, l []int, bits int) ([]int, api.Errno) {
	var samples []int
	for _, x := range l {
		sample := large(guessOf(p, samples, bits))
		if sample.Add(sample, large(x)); !fits(sample, bits) {
			return nil, api.ErrSample
		}
		samples = append(samples, int(sample.Int64()))
	}
	return samples, api.OK
}

// stepsOf is the list of differences, taken so many times.
func stepsOf(l []int, times int) []int {
	l = slices.Clone(l)
	for range min(max(times, 0), 8) {
		next := make([]int, len(l))
		for i, x := range l {
			ahead := large(0)
			if i > 0 {
				ahead = hold(large(l[i-1]))
			}
			next[i] = int(hold(new(big.Int).Sub(hold(large(x)), ahead)).Int64())
		}
		l = next
	}
	return l
}

// guesses fails, if there is another guess.
func guesses(t *testing.T, p api.Predictor, past []int, bits, want int) {
	t.Helper()
	kept, coefs := slices.Clone(past), slices.Clone(p.Coefs)
	got, e := predict.Guess(p, past, bits)
	if e != api.OK || got != want {
		t.Fatalf("%v behind %v, %d bits: %d, error %d, not %d", p, past, bits, got, e, want)
	}
	if !slices.Equal(past, kept) || !slices.Equal(p.Coefs, coefs) {
		t.Fatal("what was handed in has changed")
	}
}

// turn is a call that makes a list of a list.
type turn func(p api.Predictor, l []int, bits int) ([]int, api.Errno)

// turns fails, if a list is made another one; with an error nothing may be told.
func turns(t *testing.T, by turn, p api.Predictor, l []int, bits int, want []int, wantErr api.Errno) {
	t.Helper()
	kept, coefs := slices.Clone(l), slices.Clone(p.Coefs)
	got, e := by(p, l, bits)
	if e != wantErr || !slices.Equal(got, want) {
		t.Fatalf("%v makes of %v, %d bits: %v, error %d, not %v, error %d", p, l, bits, got, e, want, wantErr)
	}
	if !slices.Equal(l, kept) || !slices.Equal(p.Coefs, coefs) {
		t.Fatal("what was handed in has changed")
	}
}

// leaves fails, if guesses leave something else of samples.
func leaves(t *testing.T, p api.Predictor, l []int, bits int, want []int, wantErr api.Errno) {
	t.Helper()
	turns(t, predict.Residue, p, l, bits, want, wantErr)
}

// restores fails, if something else was the samples.
func restores(t *testing.T, p api.Predictor, l []int, bits int, want []int, wantErr api.Errno) {
	t.Helper()
	turns(t, predict.Restore, p, l, bits, want, wantErr)
}

// fixed is one of the predictors that need no telling.
func fixed(t *testing.T, order int) api.Predictor {
	t.Helper()
	p, e := predict.Fixed(order)
	if e != api.OK {
		t.Fatal(order, e)
	}
	return p
}

// P13.1: predictors that need no telling, made anew each time; and none of another order.
func TestFixed(t *testing.T) {
	for range 2 {
		for order, want := range [][]int{{}, {1}, {2, -1}, {3, -3, 1}, {4, -6, 4, -1}} {
			p := fixed(t, order)
			if p.Shift != 0 || !slices.Equal(p.Coefs, want) {
				t.Errorf("%d: %v, not %v", order, p, want)
			}
			for i := range p.Coefs {
				p.Coefs[i] = 99
			}
		}
	}
	for _, order := range []int{-1, 5, 6, 8, 32, 1 << 32, math.MinInt, math.MaxInt} {
		if p, e := predict.Fixed(order); e != api.ErrArg || len(p.Coefs) > 0 || p.Shift != 0 {
			t.Errorf("%d: %v, error %d", order, p, e)
		}
	}
}

// P13.2: guesses by hand.
func TestGuess(t *testing.T) {
	for _, c := range []struct {
		p          api.Predictor
		past       []int
		bits, want int
	}{
		{of(0), nil, 8, 0},
		{of(0), []int{5}, 8, 0},
		{of(15), []int{5}, 8, 0},
		{of(0, 1), nil, 8, 0},
		{of(0, 1), []int{}, 8, 0},
		{of(0, 1), []int{3, 5}, 8, 5},
		{of(0, 0, 1), []int{3, 5}, 8, 3},
		{of(0, 0, 0, 1), []int{3, 5}, 8, 0},
		{of(0, 2, -1), []int{3, 5}, 8, 7},
		{of(0, 2, -1), []int{5}, 8, 10},
		{of(0, 1, 10, 100), []int{9, 1, 2, 3}, 16, 123},
		{of(7, 64, -32), []int{4, 10}, 8, 4},
		// Rounded down, on either side of 0.
		{of(1, 1), []int{5}, 8, 2},
		{of(1, 1), []int{-5}, 8, -3},
		{of(15, 1), []int{-1}, 8, -1},
		{of(15, 1), []int{1<<15 - 1}, 8, 0},
		{of(15, 1<<15-1), []int{100}, 8, 99},
		{of(15, 1<<15-1), []int{-100}, 8, -100},
		// Added up first, and shifted then.
		{of(1, 1, 1), []int{1, 1}, 8, 1},
		{of(2, 1, 1, 1, 1), []int{-1, -1, -1, -2}, 8, -2},
		// No further than so many bits reach.
		{of(0, 1), []int{127}, 8, 127},
		{of(0, 1), []int{128}, 8, 127},
		{of(0, 1), []int{-128}, 8, -128},
		{of(0, 1), []int{-129}, 8, -128},
		{of(0, 2), []int{100}, 8, 127},
		{of(0, -2), []int{100}, 8, -128},
		{of(1, 2), []int{127}, 8, 127},
		{of(0, 1), []int{1}, 1, 0},
		{of(0, 1), []int{0}, 1, 0},
		{of(0, 1), []int{-1}, 1, -1},
		{of(0, 3), []int{-1}, 1, -1},
		{of(0, 1), []int{1}, 2, 1},
		{of(0, 1), []int{1<<31 - 1}, 32, 1<<31 - 1},
		{of(0, 1), []int{1 << 31}, 32, 1<<31 - 1},
		{of(0, 1), []int{-1 << 31}, 32, -1 << 31},
		{of(0, 1), []int{-1<<31 - 1}, 32, -1 << 31},
		{of(0, 1), []int{1 << 30}, 31, 1<<30 - 1},
	} {
		if got := guessOf(c.p, c.past, c.bits); got != c.want {
			t.Errorf("the model of %v behind %v, %d bits: %d, not %d", c.p, c.past, c.bits, got, c.want)
		}
		guesses(t, c.p, c.past, c.bits, c.want)
	}
}

// P13.2: samples, products and sums that are held, from the first coefficient on.
func TestGuessIsHeld(t *testing.T) {
	for _, c := range []struct {
		p    api.Predictor
		past []int
		want int
	}{
		{of(0, 1), []int{math.MaxInt}, 1<<31 - 1},
		{of(0, 1), []int{math.MinInt}, -1 << 31},
		{of(0, -1), []int{math.MinInt}, 1<<31 - 1},
		{of(0, -1<<15+1), []int{math.MinInt}, 1<<31 - 1},
		// Samples: one that is held, less the end.
		{of(0, 1, -1), []int{held, math.MaxInt}, 0},
		{of(0, -1, 1), []int{-held, math.MinInt}, 0},
		{of(0, 1, -1), []int{held - 3, held + 5}, 3},
		// Products: twice the end is the end, and so is one more than it.
		{of(0, 2, -1), []int{held, held}, 0},
		{of(0, 2, 1), []int{held - 7, -held}, -7},
		{of(0, 4, -1), []int{held - 7, 1<<60 + 1}, 7},
		{of(0, 1<<15-1, -1), []int{held - 7, 1 << 61}, 7},
		{of(0, -1<<15+1, 1), []int{held - 7, 1 << 61}, -7},
		// Sums: what is beyond the end is lost, if it comes first.
		{of(0, 1, 1, -1), []int{held, held, held}, 0},
		{of(0, -1, 1, 1), []int{held, held, held}, 1<<31 - 1},
		{of(0, 1, -1, 1), []int{5, held, held}, 5},
		{of(0, 1, 1, 1), []int{-held + 9, 20, held}, 9},
		{of(0, 1, 1, 1), []int{held - 9, -20, -held}, -9},
		{of(0, 1, 1, 1), []int{20, -held + 9, held}, 29},
		{of(0, 1, 1, 1, 1), []int{-held, 7, -7, held - 7}, -7},
		{of(0, 1, 1, 1, 1), []int{-held, -7, 7, held - 7}, -7},
		// Held ahead of the shift.
		{of(15, 1, 1, -1), []int{held, held, held}, 0},
		{of(15, 1, 1, 1), []int{-held + 1<<20, 1 << 20, held}, 32},
		{of(15, 1, 1, 1), []int{-held - 1, 1 << 20, held}, 0},
	} {
		if got := guessOf(c.p, c.past, 32); got != c.want {
			t.Errorf("the model of %v behind %v: %d, not %d", c.p, c.past, got, c.want)
		}
		guesses(t, c.p, c.past, 32, c.want)
	}
}

// P13.2: guesses of predictors of all kinds, behind numbers of all widths.
func TestGuesses(t *testing.T) {
	x := noise(1)
	for bits := 1; bits <= 32; bits++ {
		for range 200 {
			p := x.predictor()
			past := x.coarse(x.next(40), bits)
			guesses(t, p, past, bits, guessOf(p, past, bits))
			past = x.coarse(x.next(40), 2+x.next(63))
			guesses(t, p, past, bits, guessOf(p, past, bits))
		}
	}
}

// P13.2: all coefficients guess, and what is further back than they reach does not matter.
func TestAllCoefs(t *testing.T) {
	past := make([]int, 40)
	for i := range past {
		past[i] = 1000 + i
	}
	for place := range api.MaxOrder {
		p := of(0, make([]int, api.MaxOrder)...)
		p.Coefs[place] = 1
		guesses(t, p, past, 16, 1039-place)
		guesses(t, p, past[40-place:], 16, 0)
		guesses(t, p, past[39-place:], 16, 1039-place)
	}
}

// P13.2, P13.3: predictors and bits that may not be, ahead of samples that may not be.
func TestWrong(t *testing.T) {
	refused := func(p api.Predictor, bits int) {
		t.Helper()
		for _, l := range [][]int{nil, {0}, {0, math.MaxInt}, {math.MinInt}} {
			if got, e := predict.Guess(p, l, bits); e != api.ErrArg || got != 0 {
				t.Errorf("%v, %d bits: %d, error %d", p, bits, got, e)
			}
			leaves(t, p, l, bits, nil, api.ErrArg)
			restores(t, p, l, bits, nil, api.ErrArg)
		}
	}
	for _, bits := range []int{0, 33, -1, 62, 63, 64, 65, 1 << 32, math.MinInt, math.MaxInt} {
		refused(of(0), bits)
		refused(of(2, 5, -5), bits)
	}
	for _, p := range []api.Predictor{
		of(-1), of(16), of(math.MinInt, 1), of(math.MaxInt, 1), of(64, 1), of(-1, 1), of(16, 1),
		of(0, 1<<15), of(0, -1<<15), of(0, 0, math.MinInt), of(0, math.MaxInt, 0), of(0, make([]int, 33)...), of(0, make([]int, 1000)...),
	} {
		for _, bits := range []int{1, 16, 32, 0, 33} {
			refused(p, bits)
		}
	}
}

// P13.3: what guesses leave, and back, by hand.
func TestResidue(t *testing.T) {
	for _, c := range []struct {
		p       api.Predictor
		bits    int
		l, want []int
	}{
		{of(0), 8, nil, nil},
		{of(0, 1), 8, []int{}, nil},
		{of(0), 8, []int{3, 5, -8}, []int{3, 5, -8}},
		{of(0, 1), 8, []int{3, 5, 8}, []int{3, 2, 3}},
		{of(0, 2, -1), 8, []int{3, 5, 8}, []int{3, -1, 1}},
		{of(0, 3, -3, 1), 8, []int{3, 5, 8, 12}, []int{3, -4, 2, 0}},
		{of(0, 4, -6, 4, -1), 8, []int{3, 5, 8, 12, 17}, []int{3, -7, 6, -2, 0}},
		{of(1, 1), 8, []int{-5, 0}, []int{-5, 3}},
		{of(0, -1), 8, []int{-128, 127, -128}, []int{-128, 0, -1}},
		{of(0, 1), 8, []int{-128, 127, -128}, []int{-128, 255, -255}},
		{of(0, 2), 8, []int{100, 127, -128}, []int{100, 0, -255}},
		{of(0, -1), 1, []int{-1, 0, -1}, []int{-1, 0, -1}},
		{of(0, 1), 1, []int{-1, 0, -1}, []int{-1, 1, -1}},
		{of(0, 1), 32, []int{-1 << 31, 1<<31 - 1, -1 << 31}, []int{-1 << 31, 1<<32 - 1, -1<<32 + 1}},
		{of(0, -1<<15+1), 32, []int{1<<31 - 1, 1<<31 - 1}, []int{1<<31 - 1, 1<<32 - 1}},
	} {
		leaves(t, c.p, c.l, c.bits, c.want, api.OK)
		restores(t, c.p, c.want, c.bits, c.l, api.OK)
	}
}

// P13.3: samples that do not fit, at either end of a list, only just, and by far.
func TestNoSample(t *testing.T) {
	for bits := 1; bits <= 32; bits++ {
		lo, hi := -1<<(bits-1), 1<<(bits-1)-1
		for _, x := range []int{lo - 1, hi + 1, math.MinInt, math.MaxInt} {
			for _, p := range []api.Predictor{of(0), of(0, 1), of(3, 4, -5)} {
				for _, l := range [][]int{{x}, {x, 0}, {0, x}, {lo, hi, x, 0}} {
					leaves(t, p, l, bits, nil, api.ErrSample)
				}
			}
			for _, l := range [][]int{{x}, {x, 0}, {0, x}, {lo, hi, x, 0}} {
				restores(t, of(0), l, bits, nil, api.ErrSample)
			}
		}
		leaves(t, of(0), []int{lo, hi, 0}, bits, []int{lo, hi, 0}, api.OK)
		restores(t, of(0), []int{lo, hi, 0}, bits, []int{lo, hi, 0}, api.OK)
		// By the one ahead: from the least sample up to the greatest one, and one more, and back.
		restores(t, of(0, 1), []int{lo, hi - lo}, bits, []int{lo, hi}, api.OK)
		restores(t, of(0, 1), []int{lo, hi - lo + 1}, bits, nil, api.ErrSample)
		restores(t, of(0, 1), []int{hi, lo - hi}, bits, []int{hi, lo}, api.OK)
		restores(t, of(0, 1), []int{hi, lo - hi - 1, 0}, bits, nil, api.ErrSample)
		for _, x := range []int{math.MinInt, math.MaxInt, held, -held} {
			restores(t, of(0, 1), []int{lo, x}, bits, nil, api.ErrSample)
			restores(t, of(0, 1), []int{hi, x}, bits, nil, api.ErrSample)
		}
	}
}

// P13.3, P13.5, P13.6: of samples of all kinds: there and back, and one bit more at the most.
func TestThereAndBack(t *testing.T) {
	x := noise(2)
	for bits := 1; bits <= 32; bits++ {
		for range 60 {
			p := x.predictor()
			if x.next(3) == 0 {
				p = fixed(t, x.next(5))
			}
			l := x.coarse(x.next(60), bits)
			want, _ := residueOf(p, l, bits)
			leaves(t, p, l, bits, want, api.OK)
			restores(t, p, want, bits, l, api.OK)
			if slices.ContainsFunc(want, func(r int) bool { return r < -1<<bits || r >= 1<<bits }) {
				t.Fatalf("%v leaves of %v: %v", p, l, want)
			}
		}
	}
}

// P13.3, P13.5: what is restored leaves just that of which it was restored; or it is refused.
func TestBackAndThere(t *testing.T) {
	x := noise(3)
	fine := 0
	for range 3000 {
		p, bits := x.predictor(), 1+x.next(32)
		left := x.list(x.next(20), 1+x.next(bits+1))
		if x.next(20) == 0 {
			left = append(left, x.number(64))
		}
		want, wantErr := restoreOf(p, left, bits)
		restores(t, p, left, bits, want, wantErr)
		if wantErr == api.OK {
			leaves(t, p, want, bits, left, api.OK)
			fine++
		}
	}
	if fine < 500 || fine > 2500 {
		t.Error(fine)
	}
}

// P13.3: a block's samples, as many as there may be, of the greatest order.
func TestLongLists(t *testing.T) {
	x := noise(4)
	l := x.coarse(api.MaxBlock, 24)
	p := of(15, x.list(api.MaxOrder, 15)...)
	left, e := predict.Residue(p, l, 24)
	if e != api.OK || len(left) != len(l) {
		t.Fatal(len(left), e)
	}
	for _, i := range []int{0, 1, 31, 32, 33, 1000, len(l) - 1} {
		if want := l[i] - guessOf(p, l[:i], 24); left[i] != want {
			t.Errorf("at %d: %d, not %d", i, left[i], want)
		}
	}
	if got, e := predict.Restore(p, left, 24); e != api.OK || !slices.Equal(got, l) {
		t.Error(len(got), e)
	}
}

// P13.4: differences by hand.
func TestSteps(t *testing.T) {
	for _, c := range []struct {
		l     []int
		times int
		want  []int
	}{
		{nil, 0, nil},
		{nil, 3, nil},
		{[]int{}, 8, nil},
		{[]int{3, 5, 8}, 0, []int{3, 5, 8}},
		{[]int{3, 5, 8}, -1, []int{3, 5, 8}},
		{[]int{3, 5, 8}, math.MinInt, []int{3, 5, 8}},
		{[]int{3, 5, 8}, 1, []int{3, 2, 3}},
		{[]int{3, 5, 8}, 2, []int{3, -1, 1}},
		{[]int{3, 5, 8}, 3, []int{3, -4, 2}},
		{[]int{7}, 1, []int{7}},
		{[]int{7}, 8, []int{7}},
		{[]int{1, 0, 0, 0, 0, 0, 0, 0, 0, 0}, 7, []int{1, -7, 21, -35, 35, -21, 7, -1, 0, 0}},
		{[]int{1, 0, 0, 0, 0, 0, 0, 0, 0, 0}, 8, []int{1, -8, 28, -56, 70, -56, 28, -8, 1, 0}},
		{[]int{1, 0, 0, 0, 0, 0, 0, 0, 0, 0}, 9, []int{1, -8, 28, -56, 70, -56, 28, -8, 1, 0}},
		{[]int{1, 0, 0, 0, 0, 0, 0, 0, 0, 0}, math.MaxInt, []int{1, -8, 28, -56, 70, -56, 28, -8, 1, 0}},
		// Held: the numbers, and what they differ by. As it is, the list is when nothing is done.
		{[]int{math.MaxInt, math.MinInt, held + 1}, 0, []int{math.MaxInt, math.MinInt, held + 1}},
		{[]int{math.MaxInt, math.MinInt, held + 1}, 1, []int{held, -held, held}},
		{[]int{math.MinInt, math.MaxInt}, 1, []int{-held, held}},
		{[]int{held, -held, held}, 1, []int{held, -held, held}},
		{[]int{held - 5, math.MaxInt, held - 3}, 1, []int{held - 5, 5, -3}},
		{[]int{5 - held, math.MinInt, 3 - held}, 1, []int{5 - held, -5, 3}},
		{[]int{0, 1 << 61, -1 << 61, 1<<61 + 1}, 1, []int{0, 1 << 61, -held, held}},
		{[]int{0, held, -1}, 2, []int{0, held, -held}},
		{[]int{0, 0, math.MinInt}, 2, []int{0, 0, -held}},
	} {
		kept := slices.Clone(c.l)
		got := predict.Steps(c.l, c.times)
		if want := stepsOf(c.l, c.times); !slices.Equal(got, c.want) || !slices.Equal(want, c.want) {
			t.Errorf("%d times of %v: %v, the model %v, not %v", c.times, kept, got, want, c.want)
		}
		if !slices.Equal(c.l, kept) {
			t.Error("what was handed in has changed")
		}
	}
}

// P13.4: differences of numbers of all widths; what is answered is new memory.
func TestStepsOfMany(t *testing.T) {
	x := noise(5)
	for width := 2; width <= 64; width++ {
		for times := -1; times <= 10; times++ {
			l := x.coarse(1+x.next(20), width)
			kept := slices.Clone(l)
			got := predict.Steps(l, times)
			if want := stepsOf(l, times); !slices.Equal(got, want) {
				t.Fatalf("%d times of %v: %v, not %v", times, l, got, want)
			}
			for i := range got {
				got[i] = 99
			}
			_ = append(got[:0], 98)
			if !slices.Equal(l, kept) {
				t.Fatal("what was handed in is answered")
			}
		}
	}
}

// P13.7: what the predictors that need no telling leave of samples that are not loud.
func TestFixedSteps(t *testing.T) {
	x := noise(6)
	for bits := 8; bits <= 32; bits++ {
		for order := range 5 {
			// No guess is more than 15 times as great as the samples.
			l := x.coarse(x.next(50), bits-4)
			leaves(t, fixed(t, order), l, bits, predict.Steps(l, order), api.OK)
		}
	}
}

// P13.3: what is answered is new memory, also by a predictor that guesses nothing.
func TestAnswersAreNew(t *testing.T) {
	l := []int{1, 2, 3}
	for _, by := range []turn{predict.Residue, predict.Restore} {
		got, e := by(of(0), l, 8)
		if e != api.OK || !slices.Equal(got, l) {
			t.Fatal(got, e)
		}
		got[0] = 99
		if l[0] != 1 {
			t.Error("what was handed in is answered")
		}
	}
}
