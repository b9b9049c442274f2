package window_test

import (
	"math"
	"math/big"
	"slices"
	"testing"

	"descant/api"
	"descant/window"
)

const (
	longest = 1 << 16 // numbers of a list that is weighted
	held    = 1 << 62 // where numbers stop
	unit    = 32768   // the weight that leaves a number as it is
)

// noise is numbers that look like chance, and are the same ones at each run.
type noise uint64

func (x *noise) next(n int) int {
	*x = *x*6364136223846793005 + 1442695040888963407
	return int(*x >> 33 % noise(n))
}

// number is a number of so many bits, up to 64.
func (x *noise) number(bits int) int {
	return (x.next(1<<31)<<33 ^ x.next(1<<31)<<13 ^ x.next(1<<31)) >> (64 - bits)
}

// list is n numbers of so many bits.
func (x *noise) list(n, bits int) []int {
	l := make([]int, n)
	for i := range l {
		l[i] = x.number(bits)
	}
	return l
}

// divided is the only number that a division by a number above 0, rounded down, may come to.
func divided(t *testing.T, what string, quotient int, a, b *big.Int) {
	t.Helper()
	least := new(big.Int).Mul(big.NewInt(int64(quotient)), b)
	if rest := new(big.Int).Sub(a, least); rest.Sign() < 0 || rest.Cmp(b) >= 0 {
		t.Errorf("%s: %d is not %v / %v", what, quotient, a, b)
	}
}

// product is numbers times each other, as they truly are.
func product(l ...int) *big.Int {
	p := big.NewInt(1)
	for _, x := range l {
		p.Mul(p, big.NewInt(int64(x)))
	}
	return p
}

// stop is a number, held.
func stop(x *big.Int) *big.Int {
	switch end := big.NewInt(held); {
	case x.Cmp(end) > 0:
		return end
	case x.Cmp(new(big.Int).Neg(end)) < 0:
		return new(big.Int).Neg(end)
	}
	return x
}

func TestKinds(t *testing.T) {
	if window.Flat != 0 || window.Slope != 1 || window.Hump != 2 {
		t.Error(window.Flat, window.Slope, window.Hump)
	}
}

// P10.1: weights of few places, reckoned by hand.
func TestWeightOfFewPlaces(t *testing.T) {
	for _, c := range []struct {
		kind int
		want []int
	}{
		{window.Flat, []int{32768}},
		{window.Flat, []int{32768, 32768}},
		{window.Flat, []int{32768, 32768, 32768}},
		{window.Slope, []int{32768}},
		{window.Slope, []int{21845, 21845}},
		{window.Slope, []int{16384, 32768, 16384}},
		{window.Slope, []int{13107, 26214, 26214, 13107}},
		{window.Slope, []int{10922, 21845, 32768, 21845, 10922}},
		{window.Hump, []int{32768}},
		{window.Hump, []int{24576, 24576}},
		{window.Hump, []int{18205, 32768, 18205}},
		{window.Hump, []int{14336, 30720, 30720, 14336}},
		{window.Hump, []int{11797, 27526, 32768, 27526, 11797}},
	} {
		for i, want := range c.want {
			if got := window.Weight(c.kind, len(c.want), i); got != want {
				t.Errorf("kind %d, %d places, place %d: %d, not %d", c.kind, len(c.want), i, got, want)
			}
		}
	}
}

// P10.1: weights of very many places.
func TestWeightOfManyPlaces(t *testing.T) {
	for _, c := range []struct{ kind, n, i, want int }{
		{window.Flat, 65536, 0, 32768},
		{window.Flat, 65536, 65535, 32768},
		{window.Slope, 65536, 0, 0},
		{window.Slope, 65536, 1, 1},
		{window.Slope, 65536, 32767, 32767},
		{window.Slope, 65536, 32768, 32767},
		{window.Slope, 65536, 65535, 0},
		{window.Slope, 65535, 0, 1},
		{window.Slope, 65535, 32766, 32767},
		{window.Slope, 65535, 32767, 32768},
		{window.Slope, 65535, 65534, 1},
		{window.Hump, 65536, 0, 1},
		{window.Hump, 65536, 65535, 1},
		{window.Hump, 65536, 32767, 32768},
		{window.Hump, 65536, 32768, 32768},
		{window.Hump, 65535, 0, 2},
		{window.Hump, 65535, 32767, 32768},
	} {
		if got := window.Weight(c.kind, c.n, c.i); got != c.want {
			t.Errorf("kind %d, %d places, place %d: %d, not %d", c.kind, c.n, c.i, got, c.want)
		}
	}
}

// P10.1, P10.5: all weights of a number of places, by what they are.
func TestWeights(t *testing.T) {
	for _, n := range []int{1, 2, 3, 4, 5, 6, 7, 31, 32, 33, 256, 999, 1000, 4095, 4096, 65535, 65536} {
		for i := range n {
			ahead, behind := i, n-1-i
			nearer := big.NewInt(int64(min(ahead, behind) + 1))
			slope := window.Weight(window.Slope, n, i)
			divided(t, "slope", slope, nearer.Lsh(nearer, 16), big.NewInt(int64(n+1)))
			hump := window.Weight(window.Hump, n, i)
			divided(t, "hump", unit-hump, product(unit, ahead-behind, ahead-behind), product(n, n))
			flat := window.Weight(window.Flat, n, i)
			if flat != unit {
				t.Errorf("flat: %d", flat)
			}
			for kind, weight := range []int{flat, slope, hump} {
				if weight < 0 || weight > unit || weight != window.Weight(kind, n, behind) {
					t.Errorf("kind %d, %d places, place %d: %d, at the other end %d", kind, n, i, weight, window.Weight(kind, n, behind))
				}
			}
		}
	}
}

// P10.1: 0, where there is no such kind, or no such place.
func TestNoWeight(t *testing.T) {
	for _, kind := range []int{-1, 3, math.MinInt, math.MaxInt} {
		for _, n := range []int{1, 2, 3, 65536} {
			if got := window.Weight(kind, n, n/2); got != 0 {
				t.Errorf("kind %d, %d places: %d", kind, n, got)
			}
		}
	}
	for kind := range 3 {
		for _, n := range []int{0, 1, 2, 3, 65536} {
			for _, i := range []int{-1, n, n + 1, math.MinInt, math.MaxInt} {
				if got := window.Weight(kind, n, i); got != 0 {
					t.Errorf("kind %d, %d places, place %d: %d", kind, n, i, got)
				}
			}
		}
		for _, n := range []int{-1, -2, 65537, math.MinInt, math.MaxInt} {
			for _, i := range []int{-2, -1, 0, 1, 32768, n - 1, n / 2} {
				if got := window.Weight(kind, n, i); got != 0 {
					t.Errorf("kind %d, %d places, place %d: %d", kind, n, i, got)
				}
			}
		}
	}
}

// quiet holds what Quiet tells against what the chapter says of it.
func quiet(t *testing.T, l []int) ([]int, int) {
	t.Helper()
	kept := slices.Clone(l)
	got, s := window.Quiet(l)
	if len(got) != len(l) || s < 0 {
		t.Fatalf("of %d numbers %d, %d", len(l), len(got), s)
	}
	small, needed := true, s == 0
	for i, x := range l {
		divided(t, "quiet", got[i], big.NewInt(int64(x)), new(big.Int).Lsh(big.NewInt(1), uint(s)))
		small = small && -1<<14 <= got[i] && got[i] < 1<<14
		if s > 0 {
			half := x >> (s - 1)
			needed = needed || half < -1<<14 || half >= 1<<14
		}
	}
	if !small || !needed {
		t.Errorf("%d: all small %v, no lower one does %v", s, small, needed)
	}
	if !slices.Equal(l, kept) {
		t.Error("what was handed in has changed")
	}
	return got, s
}

// P10.2: numbers of just 15 bits, and one more, on either side of 0; the least and the greatest int.
func TestQuiet(t *testing.T) {
	for _, c := range []struct {
		l, want []int
		s       int
	}{
		{nil, nil, 0},
		{[]int{}, nil, 0},
		{[]int{0}, []int{0}, 0},
		{[]int{-1, 1}, []int{-1, 1}, 0},
		{[]int{16383, -16384}, []int{16383, -16384}, 0},
		{[]int{16384}, []int{8192}, 1},
		{[]int{-16385}, []int{-8193}, 1},
		{[]int{16384, -1, 1, -3, 3}, []int{8192, -1, 0, -2, 1}, 1},
		{[]int{-1, -16385, 16383}, []int{-1, -8193, 8191}, 1},
		{[]int{32767, -32768}, []int{16383, -16384}, 1},
		{[]int{32768}, []int{8192}, 2},
		{[]int{-32769}, []int{-8193}, 2},
		{[]int{0, 0, 32768}, []int{0, 0, 8192}, 2},
		{[]int{1<<23 - 1, -1 << 23}, []int{16383, -16384}, 9},
		{[]int{1<<62 - 1}, []int{16383}, 48},
		{[]int{1 << 62}, []int{8192}, 49},
		{[]int{-1 << 62}, []int{-16384}, 48},
		{[]int{-1<<62 - 1}, []int{-8193}, 49},
		{[]int{math.MaxInt, -1, 1, 0}, []int{16383, -1, 0, 0}, 49},
		{[]int{math.MinInt, -1, 1, 0}, []int{-16384, -1, 0, 0}, 49},
		{[]int{math.MinInt, math.MaxInt}, []int{-16384, 16383}, 49},
	} {
		got, s := quiet(t, c.l)
		if !slices.Equal(got, c.want) || s != c.s {
			t.Errorf("of %v %v, %d, not %v, %d", c.l, got, s, c.want, c.s)
		}
	}
}

// P10.2: lists of all widths, also one that is too long to be weighted.
func TestQuietLists(t *testing.T) {
	x := noise(1)
	for bits := 1; bits <= 64; bits++ {
		for range 20 {
			if _, s := quiet(t, x.list(1+x.next(20), bits)); s > max(0, bits-15) {
				t.Errorf("%d bits: %d", bits, s)
			}
		}
	}
	l := x.list(longest+1, 15)
	if _, s := quiet(t, l); s != 0 {
		t.Error(s)
	}
	l[longest] = 1 << 20
	if _, s := quiet(t, l); s != 7 {
		t.Error(s)
	}
}

// P10.2: what is answered is new memory, also of numbers that are quiet.
func TestQuietIsNew(t *testing.T) {
	l := []int{1, 2, 3}
	got, _ := window.Quiet(l)
	got[1] = 9
	if l[1] != 2 {
		t.Error("what was handed in is answered")
	}
}

// P10.3: numbers by hand: those below 0 are rounded down.
func TestApply(t *testing.T) {
	for _, c := range []struct {
		l    []int
		kind int
		want []int
	}{
		{nil, window.Flat, nil},
		{nil, window.Slope, nil},
		{[]int{}, window.Hump, nil},
		{[]int{5}, window.Flat, []int{5}},
		{[]int{-5}, window.Slope, []int{-5}},
		{[]int{-5}, window.Hump, []int{-5}},
		{[]int{16383, -16384, 0, 1, -1}, window.Flat, []int{16383, -16384, 0, 1, -1}},
		{[]int{16384, -16384, 0, 1, -1}, window.Flat, []int{8192, -8192, 0, 0, -1}},
		{[]int{3, 3, 3}, window.Slope, []int{1, 3, 1}},
		{[]int{-3, -3, -3}, window.Slope, []int{-2, -3, -2}},
		{[]int{-1, 1}, window.Slope, []int{-1, 0}},
		{[]int{4, -4}, window.Hump, []int{3, -3}},
		{[]int{5, -5}, window.Hump, []int{3, -4}},
		{[]int{40000, -40001}, window.Hump, []int{7500, -7501}},
		{[]int{math.MinInt, math.MaxInt}, window.Slope, []int{-10923, 10921}},
	} {
		if got, e := window.Apply(c.l, c.kind); e != api.OK || !slices.Equal(got, c.want) {
			t.Errorf("of %v, kind %d: %v, %d, not %v", c.l, c.kind, got, e, c.want)
		}
	}
}

// applied holds what Apply answers against quiet numbers and weights.
func applied(t *testing.T, l []int, kind int) {
	t.Helper()
	kept := slices.Clone(l)
	got, e := window.Apply(l, kind)
	if e != api.OK || len(got) != len(l) {
		t.Fatalf("of %d numbers %d, %d", len(l), len(got), e)
	}
	numbers, _ := window.Quiet(l)
	for i, x := range numbers {
		divided(t, "applied", got[i], product(x, window.Weight(kind, len(l), i)), big.NewInt(unit))
	}
	if !slices.Equal(l, kept) {
		t.Error("what was handed in has changed")
	}
}

// P10.3: lists of all widths, up to the longest one.
func TestApplyLists(t *testing.T) {
	x := noise(2)
	for kind := range 3 {
		for bits := 1; bits <= 64; bits++ {
			applied(t, x.list(x.next(50), bits), kind)
		}
		applied(t, x.list(longest, 24), kind)
		applied(t, x.list(longest-1, 15), kind)
	}
}

// P10.3: wrong kinds, and lists that are too long: the kind is looked at first.
func TestApplyErrors(t *testing.T) {
	for _, n := range []int{0, 1, longest, longest + 1} {
		for _, kind := range []int{-1, 3, math.MinInt, math.MaxInt} {
			if got, e := window.Apply(make([]int, n), kind); e != api.ErrArg || len(got) != 0 {
				t.Errorf("%d numbers, kind %d: %d, %d", n, kind, len(got), e)
			}
		}
	}
	for kind := range 3 {
		if got, e := window.Apply(make([]int, longest+1), kind); e != api.ErrLong || len(got) != 0 {
			t.Errorf("kind %d: %d, %d", kind, len(got), e)
		}
	}
}

// P10.3: what is answered is new memory, also where nothing is weighted.
func TestApplyIsNew(t *testing.T) {
	l := []int{1, 2, 3}
	got, _ := window.Apply(l, window.Flat)
	got[1] = 9
	if l[1] != 2 {
		t.Error("what was handed in is answered")
	}
}

// likeness is how like itself a list is, number by number, and held.
func likeness(l []int, order int) []int {
	all := make([]int, order+1)
	for j := range all {
		sum := new(big.Int)
		for i, x := range l {
			if i+j < len(l) {
				sum = stop(new(big.Int).Add(sum, stop(product(x, l[i+j]))))
			}
		}
		all[j] = int(sum.Int64())
	}
	return all
}

// P10.4: numbers by hand, and held ones.
func TestAuto(t *testing.T) {
	for _, c := range []struct {
		l     []int
		order int
		want  []int
	}{
		{nil, 0, []int{0}},
		{[]int{}, 2, []int{0, 0, 0}},
		{[]int{5}, 0, []int{25}},
		{[]int{-5}, 2, []int{25, 0, 0}},
		{[]int{1, 2, 3}, 0, []int{14}},
		{[]int{1, 2, 3}, 2, []int{14, 8, 3}},
		{[]int{1, 2, 3}, 3, []int{14, 8, 3, 0}},
		{[]int{1, -2, 3}, 5, []int{14, -8, 3, 0, 0, 0}},
		// Products that are held.
		{[]int{1 << 31, 1 << 30}, 1, []int{held, 1 << 61}},
		{[]int{1 << 31, -1 << 31}, 1, []int{held, -held}},
		{[]int{1<<31 + 1, -1<<31 - 1}, 1, []int{held, -held}},
		{[]int{math.MaxInt, math.MinInt}, 1, []int{held, -held}},
		{[]int{math.MinInt, math.MinInt}, 1, []int{held, held}},
		{[]int{math.MinInt, 1, 0}, 2, []int{held, -held, 0}},
		{[]int{math.MaxInt, 1, -1}, 2, []int{held, held - 1, -held}},
		// Sums that are held.
		{[]int{1<<30 + 1<<29, 1<<30 + 1<<29, 1<<30 + 1<<29}, 1, []int{held, held}},
		{[]int{1<<30 + 1<<29, -1<<30 - 1<<29, 1<<30 + 1<<29}, 1, []int{held, -held}},
		// Added up from the last one on, what is told of the next ones would be another one.
		{[]int{1 << 31, 1 << 31, 1 << 31, -1 << 31}, 1, []int{held, 0}},
		{[]int{-1 << 31, 1 << 31, 1 << 31, 1 << 31}, 1, []int{held, held}},
		{[]int{-1 << 31, 1 << 31, -1 << 31, -1 << 31}, 1, []int{held, 0}},
	} {
		if got, e := window.Auto(c.l, c.order); e != api.OK || !slices.Equal(got, c.want) {
			t.Errorf("of %v up to %d: %v, %d, not %v", c.l, c.order, got, e, c.want)
		}
	}
}

// P10.4: lists of all widths and lengths, with all orders.
func TestAutoLists(t *testing.T) {
	x := noise(3)
	for bits := 1; bits <= 64; bits++ {
		for _, order := range []int{0, 1, 2, 15, 31, api.MaxOrder} {
			l := x.list(x.next(45), bits)
			kept := slices.Clone(l)
			if got, e := window.Auto(l, order); e != api.OK || !slices.Equal(got, likeness(l, order)) {
				t.Errorf("of %v up to %d: %v, %d", l, order, got, e)
			}
			if !slices.Equal(l, kept) {
				t.Error("what was handed in has changed")
			}
		}
	}
	for _, n := range []int{api.MaxOrder - 1, api.MaxOrder, api.MaxOrder + 1, longest - 1, longest} {
		l := x.list(n, 32)
		if got, e := window.Auto(l, 3); e != api.OK || !slices.Equal(got, likeness(l, 3)) {
			t.Errorf("%d numbers: %v, %d", n, got, e)
		}
	}
}

// P10.4: wrong orders, and lists that are too long: the order is looked at first.
func TestAutoErrors(t *testing.T) {
	for _, n := range []int{0, 1, longest, longest + 1} {
		for _, order := range []int{-1, api.MaxOrder + 1, math.MinInt, math.MaxInt} {
			if got, e := window.Auto(make([]int, n), order); e != api.ErrArg || len(got) != 0 {
				t.Errorf("%d numbers up to %d: %d, %d", n, order, len(got), e)
			}
		}
	}
	for _, order := range []int{0, 1, api.MaxOrder} {
		if got, e := window.Auto(make([]int, longest+1), order); e != api.ErrLong || len(got) != 0 {
			t.Errorf("up to %d: %d, %d", order, len(got), e)
		}
	}
}

// P10.6: nothing is as like quiet numbers as they are themselves.
func TestAutoOfQuiet(t *testing.T) {
	x := noise(4)
	for bits := 1; bits <= 64; bits++ {
		for kind := range 3 {
			l, _ := window.Apply(x.list(1+x.next(100), bits), kind)
			all, e := window.Auto(l, api.MaxOrder)
			for _, a := range all {
				if e != api.OK || a > all[0] || a < -all[0] {
					t.Errorf("of %v: %v, %d", l, all, e)
				}
			}
		}
	}
	loudest, _ := window.Quiet(slices.Repeat([]int{math.MinInt}, longest))
	all, e := window.Auto(loudest, 1)
	if want := []int{1 << 44, 1<<44 - 1<<28}; e != api.OK || !slices.Equal(all, want) {
		t.Error(all, e)
	}
}
