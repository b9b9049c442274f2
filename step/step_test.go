package step_test

import (
	"math"
	"math/big"
	"slices"
	"strconv"
	"testing"

	"descant/api"
	"descant/step"
)

const (
	widest    = 32      // bits of samples that have steps, at the most
	highest   = 1 << 31 // the greatest step
	far       = 1 << 33 // how far from 0 a level may be that has a value
	targetEnd = 1 << 40 // where targets stop
)

// widths are numbers of bits of which there are no steps, too.
func widths() []int {
	l := []int{math.MinInt, math.MinInt + 1, -1 << 32, -64, -63, 63, 64, 65, 1<<32 + 8, math.MaxInt}
	for bits := -2; bits <= widest+3; bits++ {
		l = append(l, bits)
	}
	return l
}

// top is the greatest step of samples of so many bits, from 1 to 32: doubled once for each bit but one.
func top(bits int) int {
	q := 1
	for range bits - 1 {
		q += q
	}
	return q
}

// large is a number without end.
func large(x int) *big.Int {
	return big.NewInt(int64(x))
}

// rung is 2 to the power k, or 3 times that.
func rung(k int, thrice bool) *big.Int {
	x := new(big.Int).Lsh(large(1), uint(k))
	if thrice {
		x.Mul(x, large(3))
	}
	return x
}

// ladderOf is all numbers 2^k and 3 times 2^k up to an end, sorted.
func ladderOf(end int) []int {
	var l []int
	for k := range 40 {
		for _, thrice := range []bool{false, true} {
			if x := rung(k, thrice); x.Cmp(large(end)) <= 0 {
				l = append(l, int(x.Int64()))
			}
		}
	}
	slices.Sort(l)
	return l
}

// halfOf is how often 2 goes into a number of at least 0.
func halfOf(q int) int {
	return (q - q%2) / 2
}

// spaceOf is how far levels are apart, with a step.
func spaceOf(q int, shaped bool) int {
	switch {
	case !shaped:
		return q
	case q == 1:
		return 1
	}
	return halfOf(q)
}

// levelOf is a spot's level, as it truly is.
func levelOf(s step.Spot, n int) *big.Int {
	l := new(big.Int).Mul(large(n), large(spaceOf(s.Step, s.Shaped)))
	return l.Add(l, large(s.Guess))
}

// valueOf is the level, between the ends of the spot's samples.
func valueOf(s step.Spot, n int) int {
	l, least, greatest := levelOf(s, n), large(-top(s.Bits)), large(top(s.Bits)-1)
	switch {
	case l.Cmp(least) < 0:
		l = least
	case l.Cmp(greatest) > 0:
		l = greatest
	}
	return int(l.Int64())
}

// away is how far a level is from a number.
func away(s step.Spot, n, x int) *big.Int {
	d := levelOf(s, n)
	return d.Abs(d.Sub(d, large(x)))
}

// isNear tells whether a level is no further than the bound from a sample.
func isNear(s step.Spot, n, x int) bool {
	return away(s, n, x).Cmp(large(halfOf(s.Step))) <= 0
}

// name tells a spot in a test's words.
func name(s step.Spot) string {
	words := "guess " + strconv.Itoa(s.Guess) + ", step " + strconv.Itoa(s.Step) + ", bits " + strconv.Itoa(s.Bits)
	if s.Shaped {
		words += ", shaped"
	}
	return words
}

// isValue fails, if a level has another value, or another error.
func isValue(t *testing.T, s step.Spot, n, want int, wantErr api.Errno) {
	t.Helper()
	if got, e := s.Value(n); got != want || e != wantErr {
		t.Fatalf("%s: Value(%d) = %d, error %d, not %d, error %d", name(s), n, got, e, want, wantErr)
	}
}

// isSpan fails, if other levels are near a sample, or there is another error.
func isSpan(t *testing.T, s step.Spot, x, least, greatest int, wantErr api.Errno) {
	t.Helper()
	if lo, hi, e := s.Span(x); lo != least || hi != greatest || e != wantErr {
		t.Fatalf("%s: Span(%d) = %d, %d, error %d, not %d, %d, error %d", name(s), x, lo, hi, e, least, greatest, wantErr)
	}
}

// isLevel fails, if a sample has another level or value, or there is another error.
func isLevel(t *testing.T, s step.Spot, x, target, level, value int, wantErr api.Errno) {
	t.Helper()
	if n, v, e := s.Level(x, target); n != level || v != value || e != wantErr {
		t.Fatalf("%s: Level(%d, %d) = %d, %d, error %d, not %d, %d, error %d", name(s), x, target, n, v, e, level, value, wantErr)
	}
}

// P15.1: steps of each width, up to the last one and beyond.
func TestRight(t *testing.T) {
	for _, bits := range widths() {
		last := 0
		if 1 <= bits && bits <= widest {
			last = top(bits)
		}
		for _, q := range []int{math.MinInt, -1 << 31, -2, -1, 0, 1, 2, 3, 100, 127, 128, 129, last - 1, last, last + 1, 2 * last, highest - 1, highest, highest + 1, 1 << 32, 1<<32 + 1, 1 << 62, math.MaxInt} {
			if got, want := step.Right(q, bits), 1 <= q && q <= last; got != want {
				t.Errorf("Right(%d, %d) = %v", q, bits, got)
			}
		}
	}
}

// P15.1: of few bits each number is asked.
func TestRightOfFewBits(t *testing.T) {
	for bits, want := range []int{0, 1, 2, 4, 8, 16, 32, 64, 128} {
		steps := 0
		for q := -300; q <= 300; q++ {
			if step.Right(q, bits) {
				steps++
			}
		}
		if steps != want {
			t.Errorf("%d bits: %d steps, not %d", bits, steps, want)
		}
	}
}

// P15.1: ladders by hand.
func TestLadderOfFewBits(t *testing.T) {
	for bits, want := range [][]int{
		{},
		{1},
		{1, 2},
		{1, 2, 3, 4},
		{1, 2, 3, 4, 6, 8},
		{1, 2, 3, 4, 6, 8, 12, 16},
		{1, 2, 3, 4, 6, 8, 12, 16, 24, 32},
		{1, 2, 3, 4, 6, 8, 12, 16, 24, 32, 48, 64},
		{1, 2, 3, 4, 6, 8, 12, 16, 24, 32, 48, 64, 96, 128},
	} {
		if got := step.Ladder(bits); !slices.Equal(got, want) {
			t.Errorf("%d bits: %v, not %v", bits, got, want)
		}
	}
}

// P15.1: ladders of all widths, made anew each time.
func TestLadder(t *testing.T) {
	for range 2 {
		for _, bits := range widths() {
			var want []int
			if 1 <= bits && bits <= widest {
				want = ladderOf(top(bits))
			}
			got := step.Ladder(bits)
			if !slices.Equal(got, want) {
				t.Errorf("%d bits: %v, not %v", bits, got, want)
			}
			for i, q := range got {
				if !step.Right(q, bits) {
					t.Errorf("%d bits: %d is no step", bits, q)
				}
				got[i] = -1
			}
		}
	}
	if l := step.Ladder(widest); len(l) != 62 || l[61] != highest || l[60] != 3<<29 {
		t.Error(l)
	}
}

// P15.2: bounds and spaces by hand.
func TestBoundAndSpace(t *testing.T) {
	for _, c := range []struct{ q, bound, space, shaped int }{
		{1, 0, 1, 1},
		{2, 1, 2, 1},
		{3, 1, 3, 1},
		{4, 2, 4, 2},
		{5, 2, 5, 2},
		{6, 3, 6, 3},
		{7, 3, 7, 3},
		{255, 127, 255, 127},
		{256, 128, 256, 128},
		{1<<31 - 1, 1<<30 - 1, 1<<31 - 1, 1<<30 - 1},
		{1 << 31, 1 << 30, 1 << 31, 1 << 30},
		{0, 0, 0, 0},
		{-1, 0, 0, 0},
		{-2, 0, 0, 0},
		{-1 << 31, 0, 0, 0},
		{1<<31 + 1, 0, 0, 0},
		{1<<31 + 2, 0, 0, 0},
		{1 << 32, 0, 0, 0},
		{1<<32 + 4, 0, 0, 0},
		{math.MinInt, 0, 0, 0},
		{math.MinInt + 1, 0, 0, 0},
		{math.MaxInt, 0, 0, 0},
	} {
		if got := step.Bound(c.q); got != c.bound {
			t.Errorf("Bound(%d) = %d, not %d", c.q, got, c.bound)
		}
		if got := step.Space(c.q, false); got != c.space {
			t.Errorf("Space(%d, false) = %d, not %d", c.q, got, c.space)
		}
		if got := step.Space(c.q, true); got != c.shaped {
			t.Errorf("Space(%d, true) = %d, not %d", c.q, got, c.shaped)
		}
	}
}

// P15.3: values by hand.
func TestValue(t *testing.T) {
	for _, c := range []struct {
		s       step.Spot
		n, want int
	}{
		{step.Spot{Guess: 10, Step: 4, Bits: 8}, 0, 10},
		{step.Spot{Guess: 10, Step: 4, Bits: 8}, 2, 18},
		{step.Spot{Guess: 10, Step: 4, Bits: 8}, -3, -2},
		{step.Spot{Guess: 10, Step: 4, Bits: 8, Shaped: true}, 2, 14},
		{step.Spot{Guess: 10, Step: 4, Bits: 8, Shaped: true}, -3, 4},
		{step.Spot{Guess: 10, Step: 5, Bits: 8, Shaped: true}, 2, 14},
		{step.Spot{Guess: 10, Step: 1, Bits: 8}, 7, 17},
		{step.Spot{Guess: 10, Step: 1, Bits: 8, Shaped: true}, 7, 17},
		{step.Spot{Guess: 10, Step: 2, Bits: 8, Shaped: true}, 7, 17},
		{step.Spot{Guess: 10, Step: 3, Bits: 8, Shaped: true}, 7, 17},
		// No further than the samples' ends.
		{step.Spot{Guess: 10, Step: 4, Bits: 8}, 29, 126},
		{step.Spot{Guess: 10, Step: 4, Bits: 8}, 30, 127},
		{step.Spot{Guess: 11, Step: 4, Bits: 8}, 29, 127},
		{step.Spot{Guess: 10, Step: 4, Bits: 8}, -34, -126},
		{step.Spot{Guess: 10, Step: 4, Bits: 8}, -35, -128},
		{step.Spot{Guess: 8, Step: 4, Bits: 8}, -34, -128},
		{step.Spot{Guess: 0, Step: 1, Bits: 1}, 1, 0},
		{step.Spot{Guess: 0, Step: 1, Bits: 1}, -1, -1},
		{step.Spot{Guess: -1, Step: 1, Bits: 1}, -1, -1},
		{step.Spot{Guess: 10, Step: 4, Bits: 8}, far, 127},
		{step.Spot{Guess: 10, Step: 4, Bits: 8}, -far, -128},
		// Levels that are no ints.
		{step.Spot{Guess: 0, Step: highest, Bits: widest}, far, highest - 1},
		{step.Spot{Guess: -highest, Step: highest, Bits: widest}, far, highest - 1},
		{step.Spot{Guess: highest - 1, Step: highest, Bits: widest}, -far, -highest},
		{step.Spot{Guess: highest - 1, Step: highest, Bits: widest, Shaped: true}, -far, -highest},
		{step.Spot{Guess: -highest, Step: highest, Bits: widest}, 1, 0},
		{step.Spot{Guess: -highest, Step: highest, Bits: widest}, 2, highest - 1},
		{step.Spot{Guess: highest - 1, Step: highest, Bits: widest}, -1, -1},
		{step.Spot{Guess: -highest, Step: highest, Bits: widest, Shaped: true}, 1, -1 << 30},
	} {
		isValue(t, c.s, c.n, c.want, api.OK)
	}
}

// P15.3: how far a level may be from 0; of several errors the one that is named first.
func TestValueErrors(t *testing.T) {
	s := step.Spot{Guess: 10, Step: 4, Bits: 8}
	for _, n := range []int{far + 1, far + 2, -far - 1, 1 << 34, 1 << 62, -1 << 62, math.MaxInt, math.MinInt, math.MinInt + 1} {
		isValue(t, s, n, 0, api.ErrRange)
		for _, wrong := range wrongSpots() {
			isValue(t, wrong, n, 0, api.ErrArg)
		}
	}
	for _, wrong := range wrongSpots() {
		for _, n := range []int{0, 1, -1, far, -far} {
			isValue(t, wrong, n, 0, api.ErrArg)
		}
	}
}

// wrongSpots are spots that are not right.
func wrongSpots() []step.Spot {
	l := []step.Spot{{}}
	for _, shaped := range []bool{false, true} {
		for _, bits := range []int{0, -1, -8, 33, 34, 62, 63, 64, math.MinInt, math.MaxInt} {
			l = append(l, step.Spot{Guess: 0, Step: 1, Bits: bits, Shaped: shaped})
		}
		for _, q := range []int{0, -1, -4, 129, 130, 1 << 32, 1<<32 + 4, math.MinInt, math.MaxInt} {
			l = append(l, step.Spot{Guess: 0, Step: q, Bits: 8, Shaped: shaped})
		}
		for _, guess := range []int{128, -129, 1 << 32, 1<<32 + 1, math.MinInt, math.MaxInt} {
			l = append(l, step.Spot{Guess: guess, Step: 1, Bits: 8, Shaped: shaped})
		}
		l = append(l,
			step.Spot{Guess: 0, Step: highest + 1, Bits: widest, Shaped: shaped},
			step.Spot{Guess: highest, Step: 1, Bits: widest, Shaped: shaped},
			step.Spot{Guess: -highest - 1, Step: 1, Bits: widest, Shaped: shaped},
			step.Spot{Guess: 1, Step: 1, Bits: 1, Shaped: shaped},
			step.Spot{Guess: -2, Step: 1, Bits: 1, Shaped: shaped},
			step.Spot{Guess: 0, Step: 2, Bits: 1, Shaped: shaped})
	}
	return l
}

// P15.4: spans by hand.
func TestSpan(t *testing.T) {
	for _, c := range []struct {
		s                  step.Spot
		x, least, greatest int
	}{
		{step.Spot{Guess: 10, Step: 4, Bits: 8}, 17, 2, 2},
		{step.Spot{Guess: 10, Step: 4, Bits: 8}, 16, 1, 2},
		{step.Spot{Guess: 10, Step: 4, Bits: 8}, 15, 1, 1},
		{step.Spot{Guess: 10, Step: 4, Bits: 8}, 10, 0, 0},
		{step.Spot{Guess: 10, Step: 4, Bits: 8}, 8, -1, 0},
		{step.Spot{Guess: 10, Step: 4, Bits: 8}, 7, -1, -1},
		{step.Spot{Guess: 10, Step: 4, Bits: 8}, -128, -35, -34},
		{step.Spot{Guess: 10, Step: 4, Bits: 8}, 127, 29, 29},
		{step.Spot{Guess: 10, Step: 5, Bits: 8}, 12, 0, 0},
		{step.Spot{Guess: 10, Step: 5, Bits: 8}, 13, 1, 1},
		{step.Spot{Guess: 10, Step: 5, Bits: 8}, 8, 0, 0},
		{step.Spot{Guess: 10, Step: 5, Bits: 8}, 7, -1, -1},
		{step.Spot{Guess: 10, Step: 1, Bits: 8}, 17, 7, 7},
		{step.Spot{Guess: 10, Step: 1, Bits: 8, Shaped: true}, 3, -7, -7},
		{step.Spot{Guess: 10, Step: 2, Bits: 8, Shaped: true}, 17, 6, 8},
		{step.Spot{Guess: 10, Step: 3, Bits: 8, Shaped: true}, 17, 6, 8},
		{step.Spot{Guess: 10, Step: 4, Bits: 8, Shaped: true}, 17, 3, 4},
		{step.Spot{Guess: 10, Step: 4, Bits: 8, Shaped: true}, 16, 2, 4},
		{step.Spot{Guess: 10, Step: 5, Bits: 8, Shaped: true}, 16, 2, 4},
		{step.Spot{Guess: 10, Step: 4, Bits: 8, Shaped: true}, 3, -4, -3},
		{step.Spot{Guess: 10, Step: 4, Bits: 8, Shaped: true}, 4, -4, -2},
		// Levels beyond the samples' ends are near them, too.
		{step.Spot{Guess: 125, Step: 4, Bits: 8}, 127, 0, 1},
		{step.Spot{Guess: 0, Step: 1, Bits: 1}, -1, -1, -1},
		{step.Spot{Guess: -1, Step: 1, Bits: 1}, 0, 1, 1},
		{step.Spot{Guess: 0, Step: 128, Bits: 8}, 127, 1, 1},
		{step.Spot{Guess: 0, Step: 128, Bits: 8}, 64, 0, 1},
		{step.Spot{Guess: -highest, Step: 1, Bits: widest}, highest - 1, 1<<32 - 1, 1<<32 - 1},
		{step.Spot{Guess: highest - 1, Step: 1, Bits: widest}, -highest, 1 - 1<<32, 1 - 1<<32},
		{step.Spot{Guess: highest - 1, Step: 2, Bits: widest, Shaped: true}, -highest, -1 << 32, 2 - 1<<32},
		{step.Spot{Guess: -highest, Step: highest, Bits: widest}, 0, 1, 1},
		{step.Spot{Guess: -highest, Step: highest, Bits: widest, Shaped: true}, 0, 1, 3},
	} {
		isSpan(t, c.s, c.x, c.least, c.greatest, api.OK)
	}
}

// P15.5: levels by hand: that of the span that is next to the target.
func TestLevel(t *testing.T) {
	for _, c := range []struct {
		s                       step.Spot
		x, target, level, value int
	}{
		{step.Spot{Guess: 10, Step: 4, Bits: 8}, 17, 17, 2, 18},
		{step.Spot{Guess: 10, Step: 4, Bits: 8}, 17, 0, 2, 18},
		{step.Spot{Guess: 10, Step: 4, Bits: 8}, 17, 100, 2, 18},
		// Two levels that are as near as one another: the greater one.
		{step.Spot{Guess: 10, Step: 4, Bits: 8}, 16, 16, 2, 18},
		{step.Spot{Guess: 10, Step: 4, Bits: 8}, 16, 15, 1, 14},
		{step.Spot{Guess: 10, Step: 4, Bits: 8}, 16, 17, 2, 18},
		{step.Spot{Guess: 10, Step: 4, Bits: 8}, 8, 8, 0, 10},
		{step.Spot{Guess: 10, Step: 4, Bits: 8}, 8, 7, -1, 6},
		{step.Spot{Guess: 10, Step: 4, Bits: 8, Shaped: true}, 16, 13, 2, 14},
		{step.Spot{Guess: 10, Step: 4, Bits: 8, Shaped: true}, 16, 14, 2, 14},
		{step.Spot{Guess: 10, Step: 4, Bits: 8, Shaped: true}, 16, 15, 3, 16},
		{step.Spot{Guess: 10, Step: 4, Bits: 8, Shaped: true}, 16, 16, 3, 16},
		{step.Spot{Guess: 10, Step: 4, Bits: 8, Shaped: true}, 16, 17, 4, 18},
		{step.Spot{Guess: 10, Step: 4, Bits: 8, Shaped: true}, 16, 99, 4, 18},
		{step.Spot{Guess: 10, Step: 7, Bits: 8, Shaped: true}, 14, 11, 1, 13},
		{step.Spot{Guess: 10, Step: 7, Bits: 8, Shaped: true}, 14, 14, 1, 13},
		{step.Spot{Guess: 10, Step: 7, Bits: 8, Shaped: true}, 14, 15, 2, 16},
		{step.Spot{Guess: 10, Step: 7, Bits: 8, Shaped: true}, 14, 99, 2, 16},
		{step.Spot{Guess: 10, Step: 7, Bits: 8, Shaped: true}, 14, 1, 1, 13},
		// The level is next to the target, not its value.
		{step.Spot{Guess: 125, Step: 4, Bits: 8}, 127, 127, 1, 127},
		{step.Spot{Guess: 125, Step: 4, Bits: 8}, 127, 126, 0, 125},
		{step.Spot{Guess: -126, Step: 4, Bits: 8}, -128, -128, 0, -126},
		{step.Spot{Guess: -126, Step: 4, Bits: 8}, -128, -129, -1, -128},
		// Targets as far as one likes.
		{step.Spot{Guess: 10, Step: 4, Bits: 8, Shaped: true}, 16, math.MaxInt, 4, 18},
		{step.Spot{Guess: 10, Step: 4, Bits: 8, Shaped: true}, 16, math.MinInt, 2, 14},
		{step.Spot{Guess: -highest, Step: highest, Bits: widest, Shaped: true}, 0, math.MaxInt, 3, 1 << 30},
		{step.Spot{Guess: -highest, Step: highest, Bits: widest, Shaped: true}, 0, math.MinInt, 1, -1 << 30},
		{step.Spot{Guess: 5, Step: 1, Bits: 8, Shaped: true}, -9, math.MaxInt, -14, -9},
	} {
		isLevel(t, c.s, c.x, c.target, c.level, c.value, api.OK)
	}
}

// P15.4, P15.5: of several errors the one that is named first.
func TestSpanAndLevelErrors(t *testing.T) {
	for _, s := range wrongSpots() {
		for _, x := range []int{0, 1, 128, math.MinInt, math.MaxInt} {
			isSpan(t, s, x, 0, 0, api.ErrArg)
			isLevel(t, s, x, x, 0, 0, api.ErrArg)
		}
	}
	for _, bits := range []int{1, 2, 8, 16, 25, 31, 32} {
		s := step.Spot{Guess: -1, Step: 1, Bits: bits}
		for _, x := range []int{top(bits), top(bits) + 1, -top(bits) - 1, 1 << 32, -1 << 33, 1 << 62, math.MinInt, math.MaxInt} {
			isSpan(t, s, x, 0, 0, api.ErrSample)
			isLevel(t, s, x, 0, 0, 0, api.ErrSample)
		}
		for _, x := range []int{-top(bits), top(bits) - 1} {
			isSpan(t, s, x, x+1, x+1, api.OK)
			isLevel(t, s, x, 0, x+1, x, api.OK)
		}
	}
}

// holds fails, if what the spot answers of a sample and targets is not what the words say, asked level by level.
func holds(t *testing.T, s step.Spot, x int, targets []int) {
	t.Helper()
	least, greatest, e := s.Span(x)
	if e != api.OK || least > greatest {
		t.Fatalf("%s: Span(%d) = %d, %d, error %d", name(s), x, least, greatest, e)
	}
	// Levels rise: if the ends are near, and those beside them are not, these are the least and the greatest.
	if !isNear(s, least, x) || isNear(s, least-1, x) || !isNear(s, greatest, x) || isNear(s, greatest+1, x) {
		t.Fatalf("%s: Span(%d) = %d, %d", name(s), x, least, greatest)
	}
	follows(t, s, x, greatest-least+1)
	for _, target := range targets {
		kept := min(max(target, -targetEnd), targetEnd)
		best := least
		for n := least; n <= greatest; n++ {
			if away(s, n, kept).Cmp(away(s, best, kept)) <= 0 {
				best = n
			}
		}
		isLevel(t, s, x, target, best, valueOf(s, best), api.OK)
		isValue(t, s, best, valueOf(s, best), api.OK)
		if d := valueOf(s, best) - x; max(d, -d) > halfOf(s.Step) {
			t.Fatalf("%s: %d becomes %d", name(s), x, d+x)
		}
	}
}

// follows fails, if a span has another number of levels than it may have (P15.7, P15.8).
func follows(t *testing.T, s step.Spot, x, levels int) {
	t.Helper()
	switch {
	case s.Step == 1:
		if levels != 1 || valueOf(s, x-s.Guess) != x {
			t.Fatalf("%s: %d levels of %d with the step 1", name(s), levels, x)
		}
		isLevel(t, s, x, -x, x-s.Guess, x, api.OK)
	case s.Shaped && levels != 2 && levels != 3, !s.Shaped && levels != 1 && levels != 2:
		t.Fatalf("%s: %d levels of %d", name(s), levels, x)
	}
}

// P15.3 to P15.8: of few bits all spots, samples and targets.
func TestFewBits(t *testing.T) {
	for bits := 1; bits <= 4; bits++ {
		end := top(bits)
		var targets []int
		for target := -2*end - 2; target <= 2*end+2; target++ {
			targets = append(targets, target)
		}
		for i := range 2 * end * end * 2 {
			s := step.Spot{Guess: i%(2*end) - end, Step: i/(2*end)%end + 1, Bits: bits, Shaped: i >= 2*end*end}
			for n := -4 * end; n <= 4*end; n++ {
				isValue(t, s, n, valueOf(s, n), api.OK)
			}
			for x := -end; x < end; x++ {
				holds(t, s, x, targets)
			}
		}
	}
}

// edges are numbers of so many bits: the ends, those around 0, and some between.
func edges(bits int) []int {
	end := top(bits)
	l := []int{-end, -end + 1, -end / 3, -2, -1, 0, 1, 2, end / 5, end - 2, end - 1}
	return slices.DeleteFunc(l, func(x int) bool { return x < -end || x >= end })
}

// stepsOf are steps of samples of so many bits: the ladder's, and those beside them.
func stepsOf(bits int) []int {
	var l []int
	for _, q := range ladderOf(top(bits)) {
		for _, near := range []int{q - 1, q, q + 1} {
			if 1 <= near && near <= top(bits) {
				l = append(l, near)
			}
		}
	}
	return l
}

// P15.3 to P15.8: of many bits spots, samples and targets at the edges.
func TestManyBits(t *testing.T) {
	for _, bits := range []int{8, 9, 16, 24, 25, 31, 32} {
		for _, q := range stepsOf(bits) {
			for i, guess := range edges(bits) {
				s := step.Spot{Guess: guess, Step: q, Bits: bits, Shaped: (i+q)%2 == 0}
				for _, n := range []int{0, 1, -1, 2, top(bits) / q, -top(bits)/q - 1, far / q, 1 - far/q, far - 1, far, 1 - far, -far} {
					isValue(t, s, n, valueOf(s, n), api.OK)
				}
				for _, x := range edges(bits) {
					holds(t, s, x, []int{x - q, x - q/2, x - 1, x, x + 1, x + q/2 + 1, guess, -targetEnd - 1, targetEnd})
				}
			}
		}
	}
}

// P15.5: of a span's levels each is next to some target: the one at which the next one is nearer is the middle of both.
func TestBetweenLevels(t *testing.T) {
	for _, q := range []int{2, 3, 4, 5, 6, 7, 100, 101, 1<<24 - 1, 1 << 24, 1 << 31} {
		s := step.Spot{Guess: -7, Step: q, Bits: widest, Shaped: true}
		space := spaceOf(q, true)
		for _, x := range []int{-7, -6, -8, 1000, 1001, -1000, -1001} {
			least, greatest, _ := s.Span(x)
			for n := least; n < greatest; n++ {
				// Of a space that is odd, no whole number is in the middle.
				middle := -7 + n*space + (space+1)/2
				isLevel(t, s, x, middle, n+1, valueOf(s, n+1), api.OK)
				isLevel(t, s, x, middle-1, n, valueOf(s, n), api.OK)
			}
		}
	}
}
