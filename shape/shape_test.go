package shape_test

import (
	"math"
	"slices"
	"testing"

	"descant/api"
	"descant/shape"
)

const (
	sampleEnd = 1 << 32 // where samples stop
	missEnd   = 1 << 26 // where misses stop
	farthest  = 1 << 29 // how far a target may be from its sample
)

// noise is numbers that look like chance, and are the same ones at each run.
type noise uint64

func (x *noise) next(n int) int {
	*x = *x*6364136223846793005 + 1442695040888963407
	return int(*x >> 33 % noise(n))
}

// number is a number of so many bits, up to 64.
func (x *noise) number(bits int) int {
	return (x.next(1<<31)<<33 ^ x.next(1<<31)<<13 ^ x.next(1<<31)) >> (64 - bits)
}

// list is n numbers of so many bits.
func (x *noise) list(n, bits int) []int {
	l := make([]int, n)
	for i := range l {
		l[i] = x.number(bits)
	}
	return l
}

// noKinds are numbers that are no kinds.
func noKinds() []int {
	return []int{-1, -2, -4, 4, 5, 16, 1 << 32, 1<<32 + 1, math.MinInt, math.MinInt + 1, math.MaxInt}
}

// weightsOf are the weights of kinds, the lowest kind first.
func weightsOf() [][]int {
	return [][]int{{}, {15}, {24, -9}, {30, -21, 5}}
}

// made is a new shaper.
func made(t *testing.T, kind int) *shape.Shaper {
	t.Helper()
	s, e := shape.New(kind)
	if s == nil || e != api.OK || s.Kind() != kind {
		t.Fatal(kind, s, e)
	}
	return s
}

// between is a number, or the end that it is beyond.
func between(x, end int) int {
	return min(max(x, -end), end)
}

// down is a number divided by 16, rounded down.
func down(x int) int {
	rest := x % 16
	if rest < 0 {
		rest += 16
	}
	return (x - rest) / 16
}

// model is a shaper, word by word: all that was missed, the first miss first.
type model struct {
	weights, missed []int
	last            int
}

func (m *model) target(x int) int {
	sum := 0
	for i, w := range m.weights {
		if at := len(m.missed) - 1 - i; at >= 0 {
			sum += w * m.missed[at]
		}
	}
	m.last = between(x, sampleEnd) - down(sum)
	return m.last
}

func (m *model) note(y int) {
	m.missed = append(m.missed, between(between(y, sampleEnd)-m.last, missEnd))
}

// targetsOf are the targets, word by word.
func targetsOf(kind int, xs, ys []int) []int {
	m := &model{weights: weightsOf()[kind]}
	var l []int
	for i, x := range xs {
		l = append(l, m.target(x))
		m.note(ys[i])
	}
	return l
}

// aims fails, if there are other targets, or there is another error.
func aims(t *testing.T, kind int, xs, ys, want []int, wantErr api.Errno) {
	t.Helper()
	keptXs, keptYs := slices.Clone(xs), slices.Clone(ys)
	got, e := shape.Targets(kind, xs, ys)
	if e != wantErr || !slices.Equal(got, want) {
		t.Fatalf("kind %d, %v that become %v: %v, error %d, not %v, error %d", kind, xs, ys, got, e, want, wantErr)
	}
	if !slices.Equal(xs, keptXs) || !slices.Equal(ys, keptYs) {
		t.Fatal("what was handed in has changed")
	}
}

// aimsAt fails, if a shaper's next target is another one.
func aimsAt(t *testing.T, s *shape.Shaper, x, want int) {
	t.Helper()
	if got := s.Target(x); got != want {
		t.Fatalf("kind %d: Target(%d) = %d, not %d", s.Kind(), x, got, want)
	}
}

// P16.1: weights, made anew each time, with nothing behind them; none of a kind there is not.
func TestWeights(t *testing.T) {
	for range 2 {
		for kind, want := range weightsOf() {
			got := shape.Weights(kind)
			if !slices.Equal(got, want) {
				t.Errorf("%d: %v, not %v", kind, got, want)
			}
			for i := range got {
				got[i] = 99
			}
			if cap(got) != len(got) {
				t.Errorf("%d: %d weights in a list for %d", kind, len(got), cap(got))
			}
		}
	}
	for _, kind := range noKinds() {
		if got := shape.Weights(kind); len(got) > 0 {
			t.Errorf("%d: %v", kind, got)
		}
	}
}

// P16.1: shapers of each kind, and none of another one.
func TestNew(t *testing.T) {
	for kind := range weightsOf() {
		s := made(t, kind)
		aimsAt(t, s, 1000, 1000)
		s.Note(3)
		if s.Kind() != kind {
			t.Errorf("%d: kind %d", kind, s.Kind())
		}
	}
	for _, kind := range noKinds() {
		if s, e := shape.New(kind); s != nil || e != api.ErrArg {
			t.Errorf("%d: %v, error %d", kind, s, e)
		}
	}
}

// P16.1, P16.2: of nil.
func TestNil(t *testing.T) {
	var s *shape.Shaper
	s.Note(5)
	if s.Kind() != 0 || s.Target(7) != 0 || s.Target(math.MinInt) != 0 {
		t.Error("of nil there is something")
	}
	s.Note(5)
}

// P16.2: the document's example, and what comes behind it.
func TestOneMiss(t *testing.T) {
	s := made(t, 1)
	aimsAt(t, s, 100, 100)
	s.Note(116)
	aimsAt(t, s, 100, 85)
	s.Note(84)
	aimsAt(t, s, 100, 101)
	s.Note(101)
	aimsAt(t, s, 100, 100)
}

// P16.2: a miss is weighted, divided by 16, and rounded down, on either side of 0.
func TestRounding(t *testing.T) {
	for _, c := range []struct{ miss, want int }{
		{0, 0}, {1, 0}, {2, -1}, {3, -2}, {15, -14}, {16, -15}, {17, -15}, {18, -16}, {32, -30},
		{-1, 1}, {-2, 2}, {-3, 3}, {-15, 15}, {-16, 15}, {-17, 16}, {-18, 17}, {-32, 30},
	} {
		s := made(t, 1)
		aimsAt(t, s, 1000, 1000)
		s.Note(1000 + c.miss)
		aimsAt(t, s, -7, c.want-7)
	}
}

// P16.2: one miss of 16, and what it does then, sample by sample: its weights, the first one first, and nothing behind them.
func TestMissesGo(t *testing.T) {
	for kind, weights := range weightsOf() {
		s := made(t, kind)
		aimsAt(t, s, 5, 5)
		s.Note(5 + 16)
		for _, w := range append(weights, 0, 0, 0) {
			aimsAt(t, s, 5, 5-w)
			s.Note(5 - w)
		}
	}
}

// P16.2: all weights times their misses are added up first, and divided then.
func TestSum(t *testing.T) {
	s := made(t, 3)
	for _, miss := range []int{7, -4, 3} {
		y := s.Target(50) + miss
		s.Note(y)
	}
	// 30 times 3, -21 times -4 and 5 times 7 are 209: 13 times 16, and 1.
	aimsAt(t, s, 50, 37)
	s = made(t, 2)
	for _, miss := range []int{100, 5, -3} {
		y := s.Target(-50) + miss
		s.Note(y)
	}
	// 24 times -3 and -9 times 5 are -117, rounded down -8 times 16.
	aimsAt(t, s, -50, -42)
}

// P16.2: what is noted ahead of a target misses 0, and what is noted again misses the last target.
func TestNoteAlone(t *testing.T) {
	s := made(t, 1)
	s.Note(32)
	aimsAt(t, s, 0, -30)
	s.Note(-30)
	s.Note(2)
	aimsAt(t, s, 0, -30)
	s = made(t, 2)
	s.Note(16)
	s.Note(32)
	// Misses of 16 and 32, the last one first: 24 times 32 less 9 times 16, by 16.
	aimsAt(t, s, 0, -39)
}

// P16.2: a target that is asked again is another one, and is what is missed then; misses stay.
func TestTargetAgain(t *testing.T) {
	s := made(t, 2)
	aimsAt(t, s, 10, 10)
	s.Note(26)
	for _, x := range []int{0, 10, -5, 10} {
		aimsAt(t, s, x, x-24)
	}
	aimsAt(t, s, 100, 76)
	s.Note(76 + 16)
	aimsAt(t, s, 0, 9-24)
}

// P16.2: samples are held, what they became is held, and so are misses.
func TestEnds(t *testing.T) {
	for _, c := range []struct{ x, want int }{
		{sampleEnd - 1, sampleEnd - 1}, {sampleEnd, sampleEnd}, {sampleEnd + 1, sampleEnd}, {1 << 62, sampleEnd}, {math.MaxInt, sampleEnd},
		{1 - sampleEnd, 1 - sampleEnd}, {-sampleEnd, -sampleEnd}, {-sampleEnd - 1, -sampleEnd}, {-1 << 62, -sampleEnd}, {math.MinInt, -sampleEnd},
	} {
		for kind := range weightsOf() {
			aimsAt(t, made(t, kind), c.x, c.want)
		}
		// What a sample far out became is held as far out: nothing is missed.
		s := made(t, 1)
		s.Target(c.x)
		s.Note(c.x)
		aimsAt(t, s, 0, 0)
	}
	for _, c := range []struct{ y, want int }{
		{missEnd - 16, 15 - 15<<22}, {missEnd, -15 << 22}, {missEnd + 1, -15 << 22}, {missEnd + 16, -15 << 22}, {sampleEnd, -15 << 22}, {math.MaxInt, -15 << 22},
		{16 - missEnd, 15<<22 - 15}, {-missEnd, 15 << 22}, {-missEnd - 1, 15 << 22}, {-missEnd - 16, 15 << 22}, {-sampleEnd, 15 << 22}, {math.MinInt, 15 << 22},
	} {
		s := made(t, 1)
		s.Note(c.y)
		aimsAt(t, s, 0, c.want)
	}
}

// P16.2: what a sample became is held, and then the target is taken from it, that may be beyond where samples stop.
func TestBeyondTheEnds(t *testing.T) {
	for _, side := range []int{1, -1} {
		s := made(t, 1)
		s.Note(-side * 16)
		aimsAt(t, s, side*sampleEnd, side*(sampleEnd+15))
		s.Note(side * (sampleEnd + 15))
		// Held, this is 15 away from the target; 225 by 16 is 14 and 1 left.
		aimsAt(t, s, 0, side*14+(side+1)/2)
	}
}

// P16.3: targets by hand.
func TestTargets(t *testing.T) {
	aims(t, 1, []int{100, 100}, []int{116, 0}, []int{100, 85}, api.OK)
	aims(t, 1, []int{100, 100}, []int{116, 9999}, []int{100, 85}, api.OK)
	aims(t, 2, []int{0, 0, 0, 0}, []int{16, 0, 0, 0}, []int{0, -24, -27, -27}, api.OK)
	aims(t, 3, []int{8}, []int{8}, []int{8}, api.OK)
	for kind := range weightsOf() {
		aims(t, kind, nil, nil, nil, api.OK)
		aims(t, kind, []int{}, nil, nil, api.OK)
	}
}

// P16.3: of several errors the one that is named first.
func TestTargetsErrors(t *testing.T) {
	for _, kind := range noKinds() {
		aims(t, kind, nil, nil, nil, api.ErrArg)
		aims(t, kind, []int{1, 2}, []int{1, 2}, nil, api.ErrArg)
		aims(t, kind, []int{1, 2}, []int{1}, nil, api.ErrArg)
	}
	for kind := range weightsOf() {
		aims(t, kind, []int{1, 2}, []int{1}, nil, api.ErrLength)
		aims(t, kind, []int{1}, []int{1, 2}, nil, api.ErrLength)
		aims(t, kind, nil, []int{0}, nil, api.ErrLength)
		aims(t, kind, []int{0}, nil, nil, api.ErrLength)
	}
}

// P16.2, P16.3: samples of all sizes that become others, near and far: word by word, and call by call, with two shapers at one time.
func TestLikeTheModel(t *testing.T) {
	var x noise = 16
	for round := range 400 {
		kind, bits := round%4, 1+x.next(64)
		xs := x.list(x.next(60), bits)
		ys := x.list(len(xs), 1+x.next(64))
		if round%3 == 0 {
			// Near to the samples, as in sound that is made coarse.
			for i := range ys {
				ys[i] = between(xs[i], 1<<40) + x.number(1+x.next(30))
			}
		}
		want := targetsOf(kind, xs, ys)
		aims(t, kind, xs, ys, want, api.OK)
		s, other := made(t, kind), made(t, x.next(4))
		for i := range xs {
			aimsAt(t, s, xs[i], want[i])
			other.Target(x.number(30))
			s.Note(ys[i])
			other.Note(x.number(30))
		}
	}
}

// P16.2: calls in whatever order.
func TestCallsInAnyOrder(t *testing.T) {
	var x noise = 62
	for round := range 200 {
		kind := round % 4
		s, m := made(t, kind), &model{weights: weightsOf()[kind]}
		for range 60 {
			n := x.number(1 + x.next(64))
			if x.next(2) == 0 {
				s.Note(n)
				m.note(n)
			} else {
				aimsAt(t, s, n, m.target(n))
			}
		}
	}
}

// P16.4: with kind 0 each target is the sample.
func TestNoShape(t *testing.T) {
	var x noise = 4
	xs, ys := x.list(500, 33), x.list(500, 64)
	aims(t, 0, xs, ys, xs, api.OK)
}

// P16.5: when each sample becomes its target, all targets are the samples.
func TestNothingMissed(t *testing.T) {
	var x noise = 5
	for kind := range weightsOf() {
		xs := x.list(500, 33)
		aims(t, kind, xs, xs, xs, api.OK)
		s := made(t, kind)
		for _, sample := range xs {
			aimsAt(t, s, sample, sample)
			s.Note(sample)
		}
	}
}

// P16.6: no target is further than 2^29 from its sample, also when all is missed that may be.
func TestNotTooFar(t *testing.T) {
	for kind, weights := range weightsOf() {
		for _, x := range []int{0, sampleEnd, -sampleEnd, 12345} {
			for turns := range 8 {
				s := made(t, kind)
				for i := range 3 {
					y := math.MaxInt
					if turns>>i&1 == 1 {
						y = math.MinInt
					}
					s.Target(0)
					s.Note(y)
				}
				away := s.Target(x) - x
				if max(away, -away) > farthest {
					t.Errorf("kind %d: %d aims %d away", kind, x, away)
				}
			}
		}
		// The farthest target there is: each miss is as far out as it may be, on its weight's side.
		s, far := made(t, kind), 0
		for _, w := range slices.Backward(weights) {
			s.Target(0)
			s.Note(math.MaxInt / max(w, -w) * w)
			far += max(w, -w) << 22
		}
		aimsAt(t, s, 0, -far)
	}
}
