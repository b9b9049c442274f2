package loop_test

import (
	"math"
	"math/big"
	"slices"
	"testing"

	"descant/api"
	"descant/loop"
)

const (
	longest  = 1 << 16 // samples of one list, at the most
	levelEnd = 1 << 33 // how far from 0 a level may be that is played
	boundEnd = 1 << 31 // the greatest bound
	heldEnd  = 1 << 62 // where numbers stop
)

// noise is numbers that look like chance, and are the same ones at each run.
type noise uint64

func (x *noise) next(n int) int {
	*x = *x*6364136223846793005 + 1442695040888963407
	return int(*x >> 33 % noise(n))
}

// number is a number of so many bits, up to 64.
func (x *noise) number(bits int) int {
	return (x.next(1<<31)<<33 ^ x.next(1<<31)<<13 ^ x.next(1<<31)) >> (64 - bits)
}

// list is n numbers of so many bits.
func (x *noise) list(n, bits int) []int {
	l := make([]int, n)
	for i := range l {
		l[i] = x.number(bits)
	}
	return l
}

// sound is n samples of so many bits: smooth ones, loud ones, or such as stay at the ends.
func (x *noise) sound(n, bits int) []int {
	lo, hi := ends(bits)
	l := x.list(n, 1+x.next(bits))
	kind, at, slope := x.next(4), 0, 0
	for i := range l {
		switch kind {
		case 0:
			slope = between(slope+x.number(max(bits-6, 1)), lo/8, hi/8)
			at = between(at+slope, lo, hi)
			l[i] = at
		case 1:
			l[i] = []int{lo, lo + 1, hi - 1, hi}[x.next(4)]
		}
	}
	return l
}

// way is a right one.
func (x *noise) way() loop.Way {
	bits := 8 + x.next(18)
	w := loop.Way{Predictor: x.predictor(), Shape: x.next(4), Bits: bits}
	w.Step = 1 + x.next(1<<x.next(bits))
	if x.next(4) == 0 {
		w.Step = 1 << x.next(bits)
	}
	return w
}

// predictor is one that needs no telling, or one with a few great coefficients, or with many.
func (x *noise) predictor() api.Predictor {
	if fixed := [][]int{{}, {1}, {2, -1}, {3, -3, 1}, {4, -6, 4, -1}}; x.next(2) == 0 {
		return of(0, fixed[x.next(5)]...)
	}
	p := of(x.next(api.MaxShift+1), x.list(x.next(api.MaxOrder+1), 1+x.next(16))...)
	for i, c := range p.Coefs {
		p.Coefs[i] = max(c, -api.MaxCoef)
	}
	return p
}

// of is a predictor.
func of(shift int, coefs ...int) api.Predictor {
	return api.Predictor{Coefs: coefs, Shift: shift}
}

// plain is a way that guesses each sample as the one ahead of it.
func plain(step, shape, bits int) loop.Way {
	return loop.Way{Predictor: of(0, 1), Step: step, Shape: shape, Bits: bits}
}

// ends are the least and the greatest number of so many bits.
func ends(bits int) (int, int) {
	return -1 << (bits - 1), 1<<(bits-1) - 1
}

// between is a number, or the end that it is beyond.
func between(x, lo, hi int) int {
	return min(max(x, lo), hi)
}

// down is a number divided by another one above 0, rounded down.
func down(x, by int) int {
	rest := x % by
	if rest < 0 {
		rest += by
	}
	return (x - rest) / by
}

// guessOf is what a predictor makes of samples, word by word.
func guessOf(p api.Predictor, past []int, bits int) int {
	sum := 0
	for i, c := range p.Coefs {
		if at := len(past) - 1 - i; at >= 0 {
			sum += c * past[at]
		}
	}
	lo, hi := ends(bits)
	return between(down(sum, 1<<p.Shift), lo, hi)
}

// spaceOf is how far a way's levels are apart.
func spaceOf(w loop.Way) int {
	switch {
	case w.Shape == 0 || w.Step == 1:
		return w.Step
	}
	return w.Step / 2
}

// levelOf is, of the levels that are no further than half of the step from a sample, the one that is next to a target.
func levelOf(w loop.Way, guess, x, target int) int {
	space, best, least := spaceOf(w), 0, math.MaxInt
	middle := down(x-guess, space)
	for n := middle - 3; n <= middle+3; n++ {
		level := guess + n*space
		if d := level - x; max(d, -d) > w.Step/2 {
			continue
		}
		if d := level - target; max(d, -d) <= least {
			best, least = n, max(d, -d)
		}
	}
	return best
}

// targetOf is at what a sample aims behind all that was missed as yet.
func targetOf(kind, x int, missed []int) int {
	sum := 0
	for i, weight := range [][]int{{}, {15}, {24, -9}, {30, -21, 5}}[kind] {
		if at := len(missed) - 1 - i; at >= 0 {
			sum += weight * missed[at]
		}
	}
	return x - down(sum, 16)
}

// codeOf makes samples coarse, word by word.
func codeOf(w loop.Way, xs []int) (levels, coarse []int) {
	lo, hi := ends(w.Bits)
	var missed []int
	for _, x := range xs {
		guess := guessOf(w.Predictor, coarse, w.Bits)
		target := targetOf(w.Shape, x, missed)
		n := levelOf(w, guess, x, target)
		y := between(guess+n*spaceOf(w), lo, hi)
		levels, coarse = append(levels, n), append(coarse, y)
		missed = append(missed, between(y-target, -1<<26, 1<<26))
	}
	return levels, coarse
}

// playOf is coarse samples, word by word.
func playOf(w loop.Way, ns []int) (coarse []int) {
	lo, hi := ends(w.Bits)
	for _, n := range ns {
		coarse = append(coarse, between(guessOf(w.Predictor, coarse, w.Bits)+n*spaceOf(w), lo, hi))
	}
	return coarse
}

// codes fails, if samples have other levels, or become others, or there is another error.
func codes(t *testing.T, w loop.Way, xs, levels, coarse []int, wantErr api.Errno) {
	t.Helper()
	kept, coefs := slices.Clone(xs), slices.Clone(w.Predictor.Coefs)
	ns, ys, e := w.Code(xs)
	if e != wantErr || !slices.Equal(ns, levels) || !slices.Equal(ys, coarse) {
		t.Fatalf("%v of %d samples: %v and %v, error %d, not %v and %v, error %d", w, len(xs), ns, ys, e, levels, coarse, wantErr)
	}
	if !slices.Equal(xs, kept) || !slices.Equal(w.Predictor.Coefs, coefs) {
		t.Fatal("what was handed in has changed")
	}
}

// plays fails, if levels are other coarse samples, or there is another error.
func plays(t *testing.T, w loop.Way, ns, coarse []int, wantErr api.Errno) {
	t.Helper()
	kept, coefs := slices.Clone(ns), slices.Clone(w.Predictor.Coefs)
	ys, e := w.Play(ns)
	if e != wantErr || !slices.Equal(ys, coarse) {
		t.Fatalf("%v of %d levels: %v, error %d, not %v, error %d", w, len(ns), ys, e, coarse, wantErr)
	}
	if !slices.Equal(ns, kept) || !slices.Equal(w.Predictor.Coefs, coefs) {
		t.Fatal("what was handed in has changed")
	}
}

// misses fails, if something else is missed, or there is another error.
func misses(t *testing.T, xs, ys []int, bound int, want []int, wantErr api.Errno) {
	t.Helper()
	keptXs, keptYs := slices.Clone(xs), slices.Clone(ys)
	if got, e := loop.Misses(xs, ys, bound); e != wantErr || !slices.Equal(got, want) {
		t.Fatalf("of %v, that are %v, bound %d: %v, error %d, not %v, error %d", xs, ys, bound, got, e, want, wantErr)
	}
	if !slices.Equal(xs, keptXs) || !slices.Equal(ys, keptYs) {
		t.Fatal("what was handed in has changed")
	}
}

// mends fails, if something else is mended, or there is another error.
func mends(t *testing.T, ys, cs []int, bound, bits int, want []int, wantErr api.Errno) {
	t.Helper()
	keptYs, keptCs := slices.Clone(ys), slices.Clone(cs)
	if got, e := loop.Mend(ys, cs, bound, bits); e != wantErr || !slices.Equal(got, want) {
		t.Fatalf("%v and %v, bound %d, %d bits: %v, error %d, not %v, error %d", ys, cs, bound, bits, got, e, want, wantErr)
	}
	if !slices.Equal(ys, keptYs) || !slices.Equal(cs, keptCs) {
		t.Fatal("what was handed in has changed")
	}
}

// wrongPredictors are such as may not be.
func wrongPredictors() []api.Predictor {
	return []api.Predictor{
		of(-1), of(16), of(math.MinInt, 1), of(math.MaxInt, 1), of(0, 1<<15), of(0, -1<<15), of(0, 1, math.MinInt), of(0, make([]int, 33)...),
	}
}

// wrongWays are such as are right but for one thing, or more.
func wrongWays() []loop.Way {
	l := []loop.Way{{}}
	for _, bits := range []int{math.MinInt, -8, 0, 1, 7, 26, 27, 32, 33, 62, 64, 1<<32 + 8, math.MaxInt} {
		l = append(l, plain(1, 0, bits), plain(1, 1, bits))
	}
	for _, step := range []int{math.MinInt, -1 << 31, -4, -1, 0, 129, 256, 1 << 24, 1<<32 + 1, math.MaxInt} {
		l = append(l, plain(step, 0, 8), plain(step, 3, 8))
	}
	for _, shape := range []int{math.MinInt, -1, 4, 5, 1 << 32, math.MaxInt} {
		l = append(l, plain(4, shape, 8))
	}
	for _, p := range wrongPredictors() {
		l = append(l, loop.Way{Predictor: p, Step: 4, Bits: 16}, loop.Way{Predictor: p, Step: 4, Bits: 7}, loop.Way{Predictor: p, Step: 4, Shape: 2, Bits: 25})
	}
	return append(l, plain(1<<24+1, 0, 25), plain(1<<15+1, 1, 16), plain(1<<31, 0, 32))
}

// P17.1: ways that may be, up to the edges, and ways that may not.
func TestCheck(t *testing.T) {
	for bits := 8; bits <= 25; bits++ {
		for shape := range 4 {
			for _, step := range []int{1, 2, 3, 1<<(bits-1) - 1, 1 << (bits - 1)} {
				for _, p := range []api.Predictor{of(0), of(15), of(0, 1), of(15, make([]int, 32)...), of(3, 1<<15-1, 1-1<<15)} {
					w := loop.Way{Predictor: p, Step: step, Shape: shape, Bits: bits}
					if e := w.Check(); e != api.OK {
						t.Errorf("%v: error %d", w, e)
					}
				}
			}
			for _, step := range []int{0, -1, 1<<(bits-1) + 1, 1 << bits} {
				if e := plain(step, shape, bits).Check(); e != api.ErrArg {
					t.Errorf("%d bits, step %d: error %d", bits, step, e)
				}
			}
		}
	}
	for _, w := range wrongWays() {
		if e := w.Check(); e != api.ErrArg {
			t.Errorf("%v: error %d", w, e)
		}
	}
}

// P17.2, P17.3: a way that may not be, ahead of all other errors.
func TestWrongWays(t *testing.T) {
	long := make([]int, longest+1)
	for _, w := range wrongWays() {
		for _, l := range [][]int{nil, {}, {0}, {1, 2}, {math.MaxInt}, {math.MinInt, 0}, long} {
			codes(t, w, l, nil, nil, api.ErrArg)
			plays(t, w, l, nil, api.ErrArg)
		}
	}
}

// P17.2, P17.3, P17.5: lists by hand.
func TestByHand(t *testing.T) {
	for _, c := range []struct {
		w                  loop.Way
		xs, levels, coarse []int
	}{
		{plain(4, 0, 8), []int{10, 21, 30}, []int{3, 2, 3}, []int{12, 20, 32}},
		{plain(4, 0, 8), nil, nil, nil},
		{plain(4, 1, 8), []int{}, nil, nil},
		{plain(1, 0, 8), []int{10, 21, 30}, []int{10, 11, 9}, []int{10, 21, 30}},
		{plain(1, 3, 8), []int{10, 21, 30}, []int{10, 11, 9}, []int{10, 21, 30}},
		// Of two levels that are as near the greater one, on either side of 0.
		{plain(4, 0, 8), []int{2, 6, 4}, []int{1, 1, -1}, []int{4, 8, 4}},
		{plain(4, 0, 8), []int{-2, -2, -3, -6}, []int{0, 0, -1, 0}, []int{0, 0, -4, -4}},
		// By the coarse samples, not by the samples: 10 and 10 leave nothing, 12 and 10 do.
		{plain(16, 0, 8), []int{11, 10, 10, 7}, []int{1, 0, 0, -1}, []int{16, 16, 16, 0}},
		// A value no further than the samples' ends, behind which the next one is guessed.
		{plain(10, 0, 8), []int{124, 127, 127, 120}, []int{12, 1, 0, -1}, []int{120, 127, 127, 117}},
		{plain(10, 0, 8), []int{-120, -126, -128, -128}, []int{-12, -1, 0, 0}, []int{-120, -128, -128, -128}},
		{plain(128, 0, 8), []int{127, -128, 63, 64, -65}, []int{1, -2, 1, 1, -1}, []int{127, -128, 0, 127, -1}},
		// Shaped: levels half as far apart, next to what was missed on the other side.
		{plain(16, 1, 8), []int{11, 10, 10}, []int{1, 1, -1}, []int{8, 16, 8}},
		{plain(4, 1, 8), []int{11, 10, 10}, []int{6, -1, 0}, []int{12, 10, 10}},
		{plain(2, 1, 8), []int{11, 10, 10}, []int{11, -1, 0}, []int{11, 10, 10}},
		{loop.Way{Step: 4, Bits: 8}, []int{10, 21, 30}, []int{3, 5, 8}, []int{12, 20, 32}},
		{loop.Way{Predictor: of(0, 2, -1), Step: 4, Bits: 8}, []int{10, 21, 30}, []int{3, -1, 1}, []int{12, 20, 32}},
		{loop.Way{Predictor: of(1, 1), Step: 4, Bits: 8}, []int{10, 21, 30, -9}, []int{3, 4, 5, -6}, []int{12, 22, 31, -9}},
	} {
		if ns, ys := codeOf(c.w, c.xs); !slices.Equal(ns, c.levels) || !slices.Equal(ys, c.coarse) {
			t.Errorf("the model: %v of %v: %v and %v, not %v and %v", c.w, c.xs, ns, ys, c.levels, c.coarse)
		}
		codes(t, c.w, c.xs, c.levels, c.coarse, api.OK)
		plays(t, c.w, c.levels, c.coarse, api.OK)
	}
}

// P17.2: samples that do not fit, only just, and by far, at either end of a list.
func TestNoSample(t *testing.T) {
	for bits := 8; bits <= 25; bits++ {
		lo, hi := ends(bits)
		for _, w := range []loop.Way{plain(1, 0, bits), plain(7, bits%4, bits)} {
			for _, x := range []int{lo - 1, hi + 1, 1 << 32, math.MinInt, math.MaxInt} {
				for _, l := range [][]int{{x}, {0, x}, {x, 0}, {lo, hi, x, 0}} {
					codes(t, w, l, nil, nil, api.ErrSample)
				}
			}
			levels, coarse := codeOf(w, []int{lo, hi, lo, 0})
			codes(t, w, []int{lo, hi, lo, 0}, levels, coarse, api.OK)
		}
	}
}

// P17.2, P17.3: as many samples as there may be, and one more, ahead of samples and levels that may not be.
func TestLong(t *testing.T) {
	var x noise = 17
	w := loop.Way{Predictor: x.predictor(), Step: 100, Shape: 3, Bits: 16}
	xs := x.sound(longest, 16)
	levels, coarse := codeOf(w, xs)
	codes(t, w, xs, levels, coarse, api.OK)
	plays(t, w, levels, coarse, api.OK)
	codes(t, w, append(xs, 0), nil, nil, api.ErrLong)
	plays(t, w, append(levels, 0), nil, api.ErrLong)
	for _, n := range []int{levelEnd + 1, math.MinInt} {
		codes(t, w, append(xs, n), nil, nil, api.ErrLong)
		plays(t, w, append(levels, n), nil, api.ErrLong)
		levels[0] = n
		plays(t, w, levels, nil, api.ErrRange)
		plays(t, w, append(levels, 0), nil, api.ErrLong)
	}
}

// P17.3: levels up to the edge, and beyond it, at either end of a list.
func TestFarLevels(t *testing.T) {
	for _, w := range []loop.Way{plain(1, 0, 8), plain(1, 2, 25), plain(1<<24, 0, 25), plain(1<<24, 3, 25), {Step: 1, Bits: 8}} {
		lo, hi := ends(w.Bits)
		plays(t, w, []int{levelEnd, -levelEnd, levelEnd, levelEnd}, []int{hi, lo, hi, hi}, api.OK)
		for _, n := range []int{levelEnd + 1, -levelEnd - 1, 1 << 34, -1 << 62, math.MaxInt, math.MinInt} {
			for _, l := range [][]int{{n}, {n, 0}, {0, n}, {1, 2, n, 3}} {
				plays(t, w, l, nil, api.ErrRange)
			}
		}
	}
}

// P17.3: what is played is guessed behind the coarse samples, and no further than their ends.
func TestPlay(t *testing.T) {
	for _, c := range []struct {
		w          loop.Way
		ns, coarse []int
	}{
		{plain(4, 0, 8), []int{0, 0, 1, 0, -3}, []int{0, 0, 4, 4, -8}},
		{plain(4, 1, 8), []int{0, 0, 1, 0, -3}, []int{0, 0, 2, 2, -4}},
		{plain(5, 2, 8), []int{1, 1, 1}, []int{2, 4, 6}},
		{plain(1, 3, 8), []int{1, 1, 1}, []int{1, 2, 3}},
		{plain(100, 0, 8), []int{1, 1, -1, -3, 1}, []int{100, 127, 27, -128, -28}},
		{loop.Way{Predictor: of(0, 3), Step: 1, Bits: 8}, []int{20, 0, 0, 0, -300, 0, 0}, []int{20, 60, 127, 127, -128, -128, -128}},
		{loop.Way{Predictor: of(0, 0, 1), Step: 2, Bits: 8}, []int{1, 2, 0, 0, 1}, []int{2, 4, 2, 4, 4}},
	} {
		plays(t, c.w, c.ns, c.coarse, api.OK)
		if got := playOf(c.w, c.ns); !slices.Equal(got, c.coarse) {
			t.Errorf("the model: %v of %v: %v, not %v", c.w, c.ns, got, c.coarse)
		}
	}
}

// P17.2, P17.3, P17.5 to P17.7: ways and sound of all kinds.
func TestLikeTheModel(t *testing.T) {
	var x noise = 5
	for range 3000 {
		w := x.way()
		xs := x.sound(x.next(60), w.Bits)
		levels, coarse := codeOf(w, xs)
		codes(t, w, xs, levels, coarse, api.OK)
		plays(t, w, levels, coarse, api.OK)
		if w.Step == 1 && !slices.Equal(coarse, xs) {
			t.Fatalf("%v with the step 1: %v", w, xs)
		}
		cs, e := loop.Misses(xs, coarse, w.Step/2)
		if e != api.OK || slices.ContainsFunc(cs, func(c int) bool { return max(c, -c) > w.Step/2 }) {
			t.Fatalf("%v: %v is too far from %v, error %d", w, coarse, xs, e)
		}
		mends(t, coarse, cs, w.Step/2, w.Bits, xs, api.OK)
	}
}

// P17.3: levels that no samples have.
func TestPlayLikeTheModel(t *testing.T) {
	var x noise = 6
	for range 2000 {
		w := x.way()
		ns := x.list(x.next(50), 1+x.next(34))
		plays(t, w, ns, playOf(w, ns), api.OK)
	}
}

// P17.2: all coefficients guess, each so many places back.
func TestAllCoefs(t *testing.T) {
	var x noise = 7
	xs := x.list(50, 16)
	for place := range api.MaxOrder {
		p := of(0, make([]int, api.MaxOrder)...)
		p.Coefs[place] = 1
		w := loop.Way{Predictor: p, Step: 1, Bits: 16}
		levels := slices.Clone(xs)
		for i := place + 1; i < len(xs); i++ {
			levels[i] -= xs[i-place-1]
		}
		codes(t, w, xs, levels, xs, api.OK)
	}
}

// P17.2, P17.3: what is answered is new memory, and no list of it is part of another one.
func TestAnswersAreNew(t *testing.T) {
	w, xs := loop.Way{Step: 1, Bits: 8}, []int{1, 2, 3}
	for range 2 {
		ns, ys, e := w.Code(xs)
		played, _ := w.Play(ns)
		missed, _ := loop.Misses(xs, []int{0, 0, 0}, 9)
		mended, _ := loop.Mend(xs, []int{0, 0, 0}, 0, 8)
		lists := [][]int{xs, ns, ys, played, missed, mended}
		for i, l := range lists {
			if e != api.OK || !slices.Equal(l, []int{1, 2, 3}) {
				t.Fatal(i, l, e)
			}
		}
		for i := range lists[1:] {
			lists[i+1][0], lists[i+1][2] = 90+i, 80+i
			_ = append(lists[i+1][:1], 70+i)
		}
		for i, l := range lists[1:] {
			if !slices.Equal(l, []int{90 + i, 70 + i, 80 + i}) || !slices.Equal(xs, []int{1, 2, 3}) {
				t.Fatal("lists that are part of one another", lists)
			}
		}
	}
}

// P17.4: misses by hand, up to the bound, and one more; numbers are held first.
func TestMisses(t *testing.T) {
	misses(t, nil, nil, 0, nil, api.OK)
	misses(t, []int{}, nil, boundEnd, nil, api.OK)
	for _, c := range []struct{ x, y, miss int }{
		{5, 5, 0}, {5, 3, 2}, {3, 5, -2}, {-5, 3, -8}, {0, -128, 128}, {1 << 31, 0, 1 << 31}, {-1 << 31, 0, -1 << 31},
		{1<<31 - 1, -1, 1 << 31}, {-1 << 31, 1<<31 - 1, 1 - 1<<32}, {1 << 40, 1<<40 + 7, -7}, {1 << 62, 1<<62 - 3, 3}, {-1 << 62, 3 - 1<<62, -3},
		// Beyond where numbers stop nothing is missed.
		{math.MaxInt, math.MaxInt, 0}, {math.MinInt, math.MinInt, 0}, {math.MaxInt, 1 << 62, 0}, {1 << 62, math.MaxInt, 0}, {math.MinInt, -1 << 62, 0},
		{math.MaxInt, 1<<62 - 9, 9}, {1<<62 - 9, math.MaxInt, -9}, {math.MinInt, 9 - 1<<62, -9}, {9 - 1<<62, math.MinInt, 9},
	} {
		away := max(c.miss, -c.miss)
		for _, bound := range []int{0, 1, away - 1, away, away + 1, boundEnd} {
			switch {
			case bound < 0 || bound > boundEnd:
				misses(t, []int{c.x}, []int{c.y}, bound, nil, api.ErrArg)
			case bound < away:
				misses(t, []int{c.x}, []int{c.y}, bound, nil, api.ErrBound)
				misses(t, []int{1, c.x, 1}, []int{1, c.y, 1}, bound, nil, api.ErrBound)
			default:
				misses(t, []int{c.x}, []int{c.y}, bound, []int{c.miss}, api.OK)
				misses(t, []int{1, c.x, 1}, []int{1, c.y, 1}, bound, []int{0, c.miss, 0}, api.OK)
			}
		}
	}
	for _, far := range [][2]int{{math.MaxInt, math.MinInt}, {math.MinInt, math.MaxInt}, {heldEnd, -heldEnd}, {-heldEnd, heldEnd}, {math.MinInt, 0}, {0, math.MinInt}, {math.MaxInt, -1}} {
		misses(t, far[:1], far[1:], boundEnd, nil, api.ErrBound)
	}
}

// wrongBounds are such as may not be.
func wrongBounds() []int {
	return []int{-1, -2, boundEnd + 1, 1 << 32, 1 << 62, -1 << 31, math.MinInt, math.MaxInt}
}

// P17.4: of several errors the one that is named first.
func TestMissesErrors(t *testing.T) {
	for _, bound := range append(wrongBounds(), 0, 5, boundEnd) {
		misses(t, []int{1}, nil, bound, nil, api.ErrLength)
		misses(t, nil, []int{1}, bound, nil, api.ErrLength)
		misses(t, []int{0, 1 << 40}, []int{0}, bound, nil, api.ErrLength)
	}
	for _, bound := range wrongBounds() {
		misses(t, nil, nil, bound, nil, api.ErrArg)
		misses(t, []int{1, 1 << 40}, []int{1, 0}, bound, nil, api.ErrArg)
		misses(t, []int{1}, []int{1}, bound, nil, api.ErrArg)
	}
}

// P17.4: what is mended, by hand.
func TestMend(t *testing.T) {
	for _, c := range []struct {
		ys, cs      []int
		bound, bits int
		want        []int
		e           api.Errno
	}{
		{nil, nil, 0, 1, nil, api.OK},
		{[]int{12, 20, 32}, []int{-2, 1, -2}, 2, 8, []int{10, 21, 30}, api.OK},
		{[]int{12, 20, 32}, []int{-2, 1, -2}, 1, 8, nil, api.ErrBound},
		{[]int{12, 20, 32}, []int{2, 1, 2}, 1, 8, nil, api.ErrBound},
		{[]int{12, 20, 32}, []int{-2, 1, -2}, 2, 5, nil, api.ErrSample},
		{[]int{12, 20, 32}, []int{-2, 1, -2}, 2, 6, []int{10, 21, 30}, api.OK},
		{[]int{127, -128}, []int{0, 0}, 0, 8, []int{127, -128}, api.OK},
		{[]int{127, -128}, []int{1, 0}, 1, 8, nil, api.ErrSample},
		{[]int{127, -128}, []int{0, -1}, 1, 8, nil, api.ErrSample},
		// Coarse samples may be beyond, if what they miss leads back.
		{[]int{129, -130}, []int{-2, 2}, 2, 8, []int{127, -128}, api.OK},
		{[]int{0, -1}, []int{-1, 1}, 1, 1, []int{-1, 0}, api.OK},
		{[]int{0}, []int{1}, 1, 1, nil, api.ErrSample},
		{[]int{1 << 31}, []int{-1}, 1, 32, []int{1<<31 - 1}, api.OK},
		{[]int{1 << 31}, []int{0}, 1, 32, nil, api.ErrSample},
		{[]int{0}, []int{-1 << 31}, boundEnd, 32, []int{-1 << 31}, api.OK},
		{[]int{0}, []int{1 << 31}, boundEnd, 32, nil, api.ErrSample},
		{[]int{-1}, []int{1 << 31}, boundEnd, 32, []int{1<<31 - 1}, api.OK},
		{[]int{1<<32 - 1}, []int{-1 << 31}, boundEnd, 32, []int{1<<31 - 1}, api.OK},
		{[]int{-1 << 32}, []int{1 << 31}, boundEnd, 32, []int{-1 << 31}, api.OK},
		{[]int{math.MaxInt}, []int{1 << 31}, boundEnd, 32, nil, api.ErrSample},
		{[]int{math.MinInt}, []int{-1 << 31}, boundEnd, 32, nil, api.ErrSample},
		{[]int{math.MinInt, 0}, []int{0, 0}, boundEnd, 32, nil, api.ErrSample},
		{[]int{0}, []int{boundEnd + 1}, boundEnd, 32, nil, api.ErrBound},
		{[]int{0}, []int{-boundEnd - 1}, boundEnd, 32, nil, api.ErrBound},
		{[]int{0}, []int{math.MinInt}, boundEnd, 32, nil, api.ErrBound},
		{[]int{0}, []int{math.MaxInt}, 0, 32, nil, api.ErrBound},
		// A sample that may not be, ahead of a miss that may not be.
		{[]int{999, 0}, []int{0, 3}, 2, 8, nil, api.ErrBound},
		{[]int{0, 999}, []int{3, 0}, 2, 8, nil, api.ErrBound},
	} {
		mends(t, c.ys, c.cs, c.bound, c.bits, c.want, c.e)
	}
}

// P17.4: of several errors the one that is named first.
func TestMendErrors(t *testing.T) {
	wrongBits := []int{0, -1, -8, 33, 34, 62, 64, 1 << 32, 1<<32 + 8, math.MinInt, math.MaxInt}
	for _, bound := range append(wrongBounds(), 0, 1, boundEnd) {
		for _, bits := range append(wrongBits, 1, 8, 32) {
			mends(t, []int{1}, nil, bound, bits, nil, api.ErrLength)
			mends(t, nil, []int{1 << 40}, bound, bits, nil, api.ErrLength)
			mends(t, []int{math.MaxInt, 0}, []int{1 << 40}, bound, bits, nil, api.ErrLength)
			if slices.Contains(wrongBounds(), bound) || slices.Contains(wrongBits, bits) {
				mends(t, nil, nil, bound, bits, nil, api.ErrArg)
				mends(t, []int{0}, []int{0}, bound, bits, nil, api.ErrArg)
				mends(t, []int{1 << 40}, []int{1 << 40}, bound, bits, nil, api.ErrArg)
			}
		}
	}
}

// large is a number, held, without end.
func large(x int) *big.Int {
	return big.NewInt(int64(between(x, -heldEnd, heldEnd)))
}

// P17.4: numbers of all sizes, near to one another and far; what is missed mends.
func TestMissesAndMend(t *testing.T) {
	var x noise = 8
	fine := 0
	for range 20000 {
		y, bits, bound := x.number(1+x.next(64)), 1+x.next(32), x.next(1<<x.next(32))
		sample := y + x.number(1+x.next(33))
		d := new(big.Int).Sub(large(sample), large(y))
		if new(big.Int).Abs(d).Cmp(large(bound)) > 0 {
			misses(t, []int{sample}, []int{y}, bound, nil, api.ErrBound)
			continue
		}
		miss := int(d.Int64())
		misses(t, []int{sample}, []int{y}, bound, []int{miss}, api.OK)
		lo, hi := ends(bits)
		if sample < lo || sample > hi {
			mends(t, []int{y}, []int{miss}, bound, bits, nil, api.ErrSample)
			continue
		}
		mends(t, []int{y}, []int{miss}, bound, bits, []int{sample}, api.OK)
		fine++
	}
	if fine < 1000 {
		t.Error(fine)
	}
}
