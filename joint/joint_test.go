package joint_test

import (
	"math"
	"math/big"
	"slices"
	"testing"

	"descant/api"
	"descant/joint"
)

const (
	held   = 1 << 62 // where numbers stop
	widest = 31      // bits of a channel, at the most
)

// noise is numbers that look like chance, and are the same ones at each run.
type noise uint64

func (x *noise) next(n int) int {
	*x = *x*6364136223846793005 + 1442695040888963407
	return int(*x >> 33 % noise(n))
}

// number is a number of so many bits, up to 64.
func (x *noise) number(bits int) int {
	return (x.next(1<<31)<<33 ^ x.next(1<<31)<<13 ^ x.next(1<<31)) >> (64 - bits)
}

// list is n numbers of so many bits.
func (x *noise) list(n, bits int) []int {
	l := make([]int, n)
	for i := range l {
		l[i] = x.number(bits)
	}
	return l
}

// ends are the least and the greatest number of so many bits.
func ends(bits int) (int, int) {
	return -1 << (bits - 1), 1<<(bits-1) - 1
}

// fits tells whether a number is one of so many bits.
func fits(x, bits int) bool {
	lo, hi := ends(bits)
	return lo <= x && x <= hi
}

// large is a number without end.
func large(x int) *big.Int {
	return big.NewInt(int64(x))
}

// hold is a number, held.
func hold(x *big.Int) int {
	switch {
	case x.Cmp(large(held)) > 0:
		return held
	case x.Cmp(large(-held)) < 0:
		return -held
	}
	return int(x.Int64())
}

// mixOf is half of two held numbers, rounded down, and what is left of the first one without the other, both held again.
func mixOf(a, b int) (int, int) {
	x, y := large(hold(large(a))), large(hold(large(b)))
	sum := new(big.Int).Add(x, y)
	// Euclid's division is rounded down, as what is divided by is above 0.
	return hold(sum.Div(sum, large(2))), hold(x.Sub(x, y))
}

// turnedOf is what a mode makes of two numbers, word by word.
func turnedOf(mode, a, b int) (int, int) {
	middle, difference := mixOf(a, b)
	pairs := [][2]int{{a, b}, {a, difference}, {difference, b}, {middle, difference}}
	return pairs[mode][0], pairs[mode][1]
}

// allTurned is what a mode makes of two lists, word by word.
func allTurned(mode int, a, b []int) (c, d []int) {
	for i := range a {
		x, y := turnedOf(mode, a[i], b[i])
		c, d = append(c, x), append(d, y)
	}
	return c, d
}

// bitsOf is how many bits each of both has, word by word.
func bitsOf(mode, bits int) (int, int) {
	more := [][2]int{{0, 0}, {0, 1}, {1, 0}, {0, 1}}
	return bits + more[mode][0], bits + more[mode][1]
}

// stepsOf is a list of differences, held.
func stepsOf(l []int) []int {
	var steps []int
	for i, x := range l {
		ahead := 0
		if i > 0 {
			ahead = hold(large(l[i-1]))
		}
		steps = append(steps, hold(new(big.Int).Sub(large(hold(large(x))), large(ahead))))
	}
	return steps
}

// roughOf is how rough a list is, word by word.
func roughOf(l []int) int {
	sum := large(0)
	for _, x := range stepsOf(stepsOf(l)) {
		sum.Add(sum, new(big.Int).Abs(large(x)))
	}
	return hold(sum)
}

// chosenOf is the mode whose two lists are least rough, word by word.
func chosenOf(a, b []int) int {
	best, least := 0, 0
	if len(a) != len(b) {
		return best
	}
	for mode := range 4 {
		c, d := allTurned(mode, a, b)
		rough := hold(new(big.Int).Add(large(roughOf(c)), large(roughOf(d))))
		if mode == 0 || rough < least {
			best, least = mode, rough
		}
	}
	return best
}

// turn is a call that makes two lists of two.
type turn func(mode int, a, b []int, bits int) ([]int, []int, api.Errno)

// makes fails, if other lists are made, or there is another error.
func makes(t *testing.T, by turn, mode int, a, b []int, bits int, c, d []int, wantErr api.Errno) {
	t.Helper()
	keptA, keptB := slices.Clone(a), slices.Clone(b)
	gotC, gotD, e := by(mode, a, b, bits)
	if e != wantErr || !slices.Equal(gotC, c) || !slices.Equal(gotD, d) {
		t.Fatalf("mode %d of %v and %v, %d bits: %v and %v, error %d, not %v and %v, error %d", mode, a, b, bits, gotC, gotD, e, c, d, wantErr)
	}
	if !slices.Equal(a, keptA) || !slices.Equal(b, keptB) {
		t.Fatal("what was handed in has changed")
	}
}

// leads fails, if two lists are not turned into two others, and these back.
func leads(t *testing.T, mode int, a, b []int, bits int, c, d []int) {
	t.Helper()
	makes(t, joint.Turn, mode, a, b, bits, c, d, api.OK)
	makes(t, joint.Back, mode, c, d, bits, a, b, api.OK)
}

// isRough fails, if a list is not so rough.
func isRough(t *testing.T, l []int, want int) {
	t.Helper()
	kept := slices.Clone(l)
	if got := joint.Rough(l); got != want {
		t.Fatalf("%v: %d, not %d", l, got, want)
	}
	if !slices.Equal(l, kept) {
		t.Fatal("what was handed in has changed")
	}
}

// chooses fails, if another mode is chosen.
func chooses(t *testing.T, a, b []int, want int) {
	t.Helper()
	keptA, keptB := slices.Clone(a), slices.Clone(b)
	if got := joint.Choose(a, b); got != want {
		t.Fatalf("%v and %v: mode %d, not %d", a, b, got, want)
	}
	if !slices.Equal(a, keptA) || !slices.Equal(b, keptB) {
		t.Fatal("what was handed in has changed")
	}
}

// noModes are numbers that are no modes.
func noModes() []int {
	return []int{-1, -2, -4, 4, 5, 8, 1 << 32, 1<<32 + 1, math.MinInt, math.MaxInt}
}

// noBits are numbers of bits that channels have not.
func noBits() []int {
	return []int{0, -1, -8, 32, 33, 62, 63, 64, 1 << 32, 1<<32 + 8, math.MinInt, math.MaxInt}
}

// P18.1: all modes and bits there are, and others.
func TestWidths(t *testing.T) {
	for mode := range 4 {
		for bits := 1; bits <= widest; bits++ {
			wantC, wantD := bitsOf(mode, bits)
			if c, d, e := joint.Widths(mode, bits); c != wantC || d != wantD || e != api.OK {
				t.Errorf("mode %d, %d bits: %d and %d, error %d", mode, bits, c, d, e)
			}
		}
	}
	refused := func(mode, bits int) {
		t.Helper()
		if c, d, e := joint.Widths(mode, bits); c != 0 || d != 0 || e != api.ErrArg {
			t.Errorf("mode %d, %d bits: %d and %d, error %d", mode, bits, c, d, e)
		}
	}
	for _, bits := range append(noBits(), 1, 8, widest) {
		for _, mode := range noModes() {
			refused(mode, bits)
		}
		for mode := range 4 {
			if slices.Contains(noBits(), bits) {
				refused(mode, bits)
			}
		}
	}
}

// P18.2, P18.3, P18.5: two samples by hand, of each mode.
func TestTurn(t *testing.T) {
	for _, c := range []struct{ a, b, middle, difference int }{
		{7, 4, 5, 3},
		{4, 7, 5, -3},
		{7, 5, 6, 2},
		{-7, -4, -6, -3},
		{-7, 4, -2, -11},
		{7, -4, 1, 11},
		{0, 0, 0, 0},
		{1, 0, 0, 1},
		{0, 1, 0, -1},
		{-1, 0, -1, -1},
		{0, -1, -1, 1},
		{127, -128, -1, 255},
		{-128, 127, -1, -255},
		{127, 127, 127, 0},
		{-128, -128, -128, 0},
		{127, 126, 126, 1},
		{-128, -127, -128, -1},
	} {
		a, b, m, d := []int{c.a}, []int{c.b}, []int{c.middle}, []int{c.difference}
		for _, bits := range []int{8, 9, 24, widest} {
			leads(t, 0, a, b, bits, a, b)
			leads(t, 1, a, b, bits, a, d)
			leads(t, 2, a, b, bits, d, b)
			leads(t, 3, a, b, bits, m, d)
		}
	}
	for mode := range 4 {
		leads(t, mode, nil, nil, 8, nil, nil)
		leads(t, mode, []int{}, nil, 1, nil, nil)
	}
	leads(t, 3, []int{7, 0, -3}, []int{4, -1, 3}, 8, []int{5, -1, 0}, []int{3, 1, -6})
}

// P18.2, P18.3, P18.5: of few bits all pairs, there and back; and of what none is turned into.
func TestFewBits(t *testing.T) {
	for bits := 1; bits <= 5; bits++ {
		lo, hi := ends(bits)
		for mode := range 4 {
			from := map[[2]int][2]int{}
			for a := lo; a <= hi; a++ {
				for b := lo; b <= hi; b++ {
					c, d := turnedOf(mode, a, b)
					leads(t, mode, []int{a}, []int{b}, bits, []int{c}, []int{d})
					from[[2]int{c, d}] = [2]int{a, b}
				}
			}
			if len(from) != 1<<(2*bits) {
				t.Fatalf("mode %d, %d bits: %d pairs", mode, bits, len(from))
			}
			for c := 2*lo - 2; c <= 2*hi+3; c++ {
				for d := 2*lo - 2; d <= 2*hi+3; d++ {
					if _, is := from[[2]int{c, d}]; !is {
						makes(t, joint.Back, mode, []int{c}, []int{d}, bits, nil, nil, api.ErrSample)
						makes(t, joint.Back, mode, []int{0, c}, []int{0, d}, bits, nil, nil, api.ErrSample)
					}
				}
			}
		}
	}
}

// P18.2, P18.3, P18.5: of all widths, at the ends and between them.
func TestManyBits(t *testing.T) {
	var x noise = 18
	for bits := 1; bits <= widest; bits++ {
		lo, hi := ends(bits)
		for mode := range 4 {
			for range 20 {
				a, b := x.list(x.next(30), bits), []int{}
				for i := range a {
					a[i] = []int{a[i], lo, hi, a[i]}[x.next(4)]
					b = append(b, []int{a[i], lo, hi, x.number(bits)}[x.next(4)])
				}
				c, d := allTurned(mode, a, b)
				leads(t, mode, a, b, bits, c, d)
			}
		}
	}
}

// P18.2: samples that do not fit, in either list, only just, and by far.
func TestTurnNoSample(t *testing.T) {
	for bits := 1; bits <= widest; bits++ {
		lo, hi := ends(bits)
		for mode := range 4 {
			for _, x := range []int{lo - 1, hi + 1, 2 * lo, 1 << 32, math.MinInt, math.MaxInt} {
				for _, l := range [][]int{{x, 0}, {0, x}} {
					makes(t, joint.Turn, mode, l, []int{0, 0}, bits, nil, nil, api.ErrSample)
					makes(t, joint.Turn, mode, []int{0, 0}, l, bits, nil, nil, api.ErrSample)
					makes(t, joint.Turn, mode, l, l, bits, nil, nil, api.ErrSample)
				}
			}
		}
	}
}

// P18.3: numbers that are not of their width, though samples of which they are made would fit; and such as fit, but of which none are made.
func TestBackNoSample(t *testing.T) {
	for _, c := range []struct {
		mode, c, d int
		e          api.Errno
	}{
		{0, 127, -128, api.OK}, {0, 128, 0, api.ErrSample}, {0, -129, 0, api.ErrSample}, {0, 0, 128, api.ErrSample}, {0, 0, -129, api.ErrSample},
		{1, 127, 255, api.OK}, {1, 127, 256, api.ErrSample}, {1, -128, -255, api.OK}, {1, -128, -256, api.ErrSample}, {1, 0, 128, api.OK}, {1, 0, 129, api.ErrSample}, {1, 0, -127, api.OK}, {1, 0, -128, api.ErrSample}, {1, 128, 128, api.ErrSample}, {1, -129, -129, api.ErrSample},
		{2, 255, -128, api.OK}, {2, 256, -128, api.ErrSample}, {2, -255, 127, api.OK}, {2, -256, 127, api.ErrSample}, {2, 127, 0, api.OK}, {2, 128, 0, api.ErrSample}, {2, -128, 0, api.OK}, {2, -129, 0, api.ErrSample}, {2, -128, 128, api.ErrSample}, {2, 128, -129, api.ErrSample},
		{3, -1, 255, api.OK}, {3, -1, -255, api.OK}, {3, 0, 255, api.ErrSample}, {3, -2, 255, api.ErrSample}, {3, 0, -255, api.ErrSample}, {3, 127, 0, api.OK}, {3, 127, 1, api.ErrSample}, {3, 127, -1, api.ErrSample}, {3, 126, 1, api.OK}, {3, 126, -1, api.OK}, {3, -128, -1, api.OK}, {3, -128, 1, api.OK}, {3, -128, 2, api.ErrSample}, {3, -128, -2, api.ErrSample}, {3, 128, 0, api.ErrSample}, {3, -129, 0, api.ErrSample}, {3, 0, -256, api.ErrSample}, {3, 0, 256, api.ErrSample},
	} {
		a, b, e := joint.Back(c.mode, []int{c.c}, []int{c.d}, 8)
		if e != c.e || e != api.OK && len(a)+len(b) > 0 {
			t.Errorf("mode %d, %d and %d: %v and %v, error %d", c.mode, c.c, c.d, a, b, e)
		}
		if c.e == api.OK {
			makes(t, joint.Turn, c.mode, a, b, 8, []int{c.c}, []int{c.d}, api.OK)
		}
	}
	for mode := range 4 {
		for _, x := range []int{math.MinInt, math.MinInt + 1, math.MaxInt, 1 << 62, -1 << 62, 1 << 32, -1<<32 - 1} {
			for _, y := range []int{math.MinInt, math.MaxInt, 0, -x, x} {
				makes(t, joint.Back, mode, []int{x}, []int{y}, widest, nil, nil, api.ErrSample)
				makes(t, joint.Back, mode, []int{y}, []int{x}, widest, nil, nil, api.ErrSample)
			}
		}
	}
}

// P18.3, P18.5: what leads back is turned into just that of which it was made; or it is refused, if it does not fit.
func TestBackAndThere(t *testing.T) {
	var x noise = 19
	fine := 0
	for range 20000 {
		mode, bits := x.next(4), 1+x.next(widest)
		c, d := x.number(1+x.next(bits+2)), x.number(1+x.next(bits+2))
		a, b, e := joint.Back(mode, []int{c}, []int{d}, bits)
		switch {
		case e == api.OK:
			makes(t, joint.Turn, mode, a, b, bits, []int{c}, []int{d}, api.OK)
			fine++
		case e != api.ErrSample || len(a)+len(b) > 0:
			t.Fatal(a, b, e)
		}
	}
	if fine < 5000 || fine > 19000 {
		t.Error(fine)
	}
}

// P18.2, P18.3: of several errors the one that is named first.
func TestErrors(t *testing.T) {
	lists := [][2][]int{{nil, nil}, {{0}, {0}}, {{0}, nil}, {nil, {0}}, {{math.MaxInt}, {0, 1}}, {{math.MinInt}, {math.MaxInt}}}
	for _, by := range []turn{joint.Turn, joint.Back} {
		for _, l := range lists {
			for _, mode := range noModes() {
				makes(t, by, mode, l[0], l[1], 8, nil, nil, api.ErrArg)
			}
			for _, bits := range noBits() {
				for mode := range 4 {
					makes(t, by, mode, l[0], l[1], bits, nil, nil, api.ErrArg)
				}
				makes(t, by, 4, l[0], l[1], bits, nil, nil, api.ErrArg)
			}
		}
		for mode := range 4 {
			for _, l := range lists[2:5] {
				makes(t, by, mode, l[0], l[1], 8, nil, nil, api.ErrLength)
			}
			makes(t, by, mode, []int{math.MaxInt, 0}, []int{0}, 1, nil, nil, api.ErrLength)
		}
	}
}

// P18.2, P18.3: what is answered is new memory, also of the mode that makes nothing else.
func TestAnswersAreNew(t *testing.T) {
	for _, by := range []turn{joint.Turn, joint.Back} {
		for mode := range 4 {
			a, b := []int{1, 2, 3}, []int{1, 2, 3}
			c, d, e := by(mode, a, b, 8)
			kept := slices.Clone(d)
			for i := range c {
				c[i] = 99
			}
			_ = append(c[:1], 98, 97)
			if e != api.OK || !slices.Equal(d, kept) {
				t.Fatal("lists that are part of one another", mode, d, e)
			}
			for i := range d {
				d[i] = 96
			}
			if !slices.Equal(a, []int{1, 2, 3}) || !slices.Equal(b, []int{1, 2, 3}) {
				t.Fatal("what was handed in is answered", mode)
			}
		}
	}
}

// P18.4: how rough lists are, by hand; what is held, and how.
func TestRough(t *testing.T) {
	for _, c := range []struct {
		l    []int
		want int
	}{
		{nil, 0}, {[]int{}, 0}, {[]int{0, 0, 0}, 0}, {[]int{5}, 5}, {[]int{-5}, 5},
		// 3, 2, 3, and of these 3, -1, 1.
		{[]int{3, 5, 8}, 5},
		{[]int{1, 1, 1, 1}, 2},
		{[]int{1, 2, 3, 4}, 1},
		{[]int{10, -10, 10, -10}, 10 + 30 + 40 + 40},
		{[]int{0, 0, 7}, 7},
		{[]int{0, 7, 0}, 7 + 14},
		{[]int{held}, held}, {[]int{math.MaxInt}, held}, {[]int{math.MinInt}, held}, {[]int{-held}, held}, {[]int{held - 1}, held - 1},
		{[]int{0, held - 5}, held - 5}, {[]int{5, 5}, 10}, {[]int{1 << 61, 1 << 61}, held}, {[]int{1<<61 - 1, 1<<61 - 1}, held - 2}, {[]int{held, -held, held}, held},
		{[]int{math.MinInt, math.MaxInt, math.MinInt}, held},
	} {
		if got := roughOf(c.l); got != c.want {
			t.Errorf("the model: %v: %d, not %d", c.l, got, c.want)
		}
		isRough(t, c.l, c.want)
	}
	var x noise = 20
	for width := 1; width <= 64; width++ {
		for range 30 {
			l := x.list(x.next(40), width)
			isRough(t, l, roughOf(l))
		}
	}
}

// P18.4: modes by hand.
func TestChoose(t *testing.T) {
	for _, c := range []struct {
		a, b []int
		want int
	}{
		// Of several the least mode: of nothing, and of noughts.
		{nil, nil, 0}, {[]int{}, nil, 0}, {[]int{0, 0}, []int{0, 0}, 0}, {[]int{9}, []int{0}, 0}, {[]int{0}, []int{9}, 0},
		// 9 and 9, 9 and 0, 0 and 9, 9 and 0.
		{[]int{9}, []int{9}, 1},
		{[]int{-9, 4, 3}, []int{-9, 4, 3}, 1},
		// 9 and 8, 9 and 1, 1 and 8, 8 and 1.
		{[]int{9}, []int{8}, 2},
		// 8 and 9, 8 and 1, 1 and 9, 8 and 1.
		{[]int{8}, []int{9}, 1},
		{[]int{-8}, []int{-9}, 1},
		// 10 and 6, 10 and 4, 4 and 6, 8 and 4.
		{[]int{10}, []int{6}, 2},
		// 10 and 5, 10 and 5, 5 and 5, 7 and 5.
		{[]int{10}, []int{5}, 2},
		// 5 and 5, 5 and 10, 10 and 5, 0 and 10.
		{[]int{5}, []int{-5}, 0},
		// Noise on either side of what is smooth: the half sum alone is smooth.
		{[]int{104, 96, 104, 96}, []int{96, 104, 96, 104}, 3},
		// Lists of unlike lengths.
		{[]int{9, 9}, []int{9}, 0}, {[]int{9}, []int{9, 9}, 0}, {nil, []int{9}, 0}, {[]int{9}, nil, 0}, {[]int{9, 9}, []int{9, 9, 5}, 0},
		// Held: numbers, and what is made of them.
		{[]int{math.MaxInt}, []int{held}, 0},
		{[]int{1 << 61}, []int{1 << 61}, 1},
		{[]int{held - 1}, []int{0}, 0},
		{[]int{held - 1}, []int{1}, 2},
		{[]int{held, 1 - held}, []int{held, 2 - held}, 0},
	} {
		if got := chosenOf(c.a, c.b); got != c.want {
			t.Errorf("the model: %v and %v: mode %d, not %d", c.a, c.b, got, c.want)
		}
		chooses(t, c.a, c.b, c.want)
	}
}

// P18.4: lists of all sizes, alike and not.
func TestChooseLikeTheModel(t *testing.T) {
	var x noise = 21
	seen := [4]int{}
	for round := range 6000 {
		width := 1 + x.next(64)
		a, b := x.list(1+x.next(12), width), []int{}
		for i, sample := range a {
			near := x.number(1 + x.next(width))
			b = append(b, []int{sample, sample + near, near, near - sample, sample - near}[round%5])
			if round%5 == 4 {
				a[i] += near
			}
		}
		if x.next(2) == 0 {
			for i := range a {
				a[i] += x.number(1 + x.next(width))
			}
		}
		want := chosenOf(a, b)
		chooses(t, a, b, want)
		seen[want]++
	}
	if slices.Min(seen[:]) < 100 {
		t.Error(seen)
	}
}

// P18.4: half sums and differences of numbers that are far out, alone and behind others.
func TestChooseFarOut(t *testing.T) {
	var x noise = 22
	far := []int{held, -held, held + 1, -held - 1, held - 1, 1 - held, math.MaxInt, math.MinInt, 1 << 61, -1 << 61, 1<<61 + 1, 0, 1, -1}
	for range 6000 {
		var a, b []int
		for range 1 + x.next(4) {
			a, b = append(a, far[x.next(len(far))]), append(b, far[x.next(len(far))])
		}
		chooses(t, a, b, chosenOf(a, b))
	}
}

// P18.6: of two lists that are the same a difference of noughts, if they are rough.
func TestSame(t *testing.T) {
	var x noise = 23
	for bits := 1; bits <= 48; bits++ {
		for range 20 {
			a := x.list(1+x.next(50), bits)
			if joint.Rough(a) == 0 {
				chooses(t, a, slices.Clone(a), 0)
				continue
			}
			mode := joint.Choose(a, slices.Clone(a))
			if mode != 1 {
				t.Fatalf("%v: mode %d", a, mode)
			}
			if bits > widest {
				continue
			}
			c, d, e := joint.Turn(mode, a, slices.Clone(a), bits)
			if e != api.OK || !slices.Equal(c, a) || !slices.Equal(d, make([]int, len(a))) {
				t.Fatalf("%v: %v and %v, error %d", a, c, d, e)
			}
		}
	}
}
