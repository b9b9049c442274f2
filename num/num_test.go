package num_test

import (
	"math"
	"math/big"
	"math/bits"
	"testing"

	"descant/num"
)

// edges are numbers next to 0, to the powers of two, to the ends, and some between.
func edges() []int {
	l := []int{math.MinInt, math.MinInt + 1, math.MaxInt - 1, math.MaxInt, 999999999989, -999999999989, 3037000499, 3037000500}
	for n := range 63 {
		for d := -2; d <= 2; d++ {
			l = append(l, 1<<n+d, -(1<<n)+d)
		}
	}
	return l
}

// few are edges that are few enough to be tried in threes.
func few() []int {
	return []int{math.MinInt, math.MinInt + 1, -num.Most - 1, -num.Most, -num.Most + 1, -1 << 31, -129, -128, -3, -2, -1, 0, 1, 2, 3, 127, 128, 1 << 31, num.Most - 1, num.Most, num.Most + 1, math.MaxInt - 1, math.MaxInt}
}

func large(x int) *big.Int { return big.NewInt(int64(x)) }

func power(n int) *big.Int { return new(big.Int).Lsh(big.NewInt(1), uint(n)) }

// held is a number of any size, held.
func held(x *big.Int) *big.Int {
	most := power(62)
	if x.Cmp(most) > 0 {
		return most
	}
	if least := new(big.Int).Neg(most); x.Cmp(least) < 0 {
		return least
	}
	return x
}

func same(t *testing.T, got int, want *big.Int, of string, args ...int) {
	t.Helper()
	if large(got).Cmp(want) != 0 {
		t.Errorf("%s%v: %d, not %s", of, args, got, want)
	}
}

// P1.1
func TestHoldAddMul(t *testing.T) {
	if num.Most != 4611686018427387904 {
		t.Fatal("Most", num.Most)
	}
	for _, a := range edges() {
		x := held(large(a))
		same(t, num.Hold(a), x, "Hold", a)
		for _, b := range edges() {
			y := held(large(b))
			same(t, num.Add(a, b), held(new(big.Int).Add(x, y)), "Add", a, b)
			same(t, num.Mul(a, b), held(new(big.Int).Mul(x, y)), "Mul", a, b)
		}
	}
}

// P1.1: both numbers are held ahead of what is done with them.
func TestHeldFirst(t *testing.T) {
	for _, c := range []struct{ a, b, add, mul int }{
		{math.MaxInt, math.MinInt, 0, -num.Most},
		{math.MaxInt, -1, num.Most - 1, -num.Most},
		{math.MinInt, 1, 1 - num.Most, -num.Most},
		{math.MinInt, math.MinInt, -num.Most, num.Most},
		{math.MaxInt, math.MaxInt, num.Most, num.Most},
		{math.MinInt, 0, -num.Most, 0},
		{1 << 31, 1 << 31, 1 << 32, num.Most},
		{1<<31 - 1, 1<<31 + 1, 1 << 32, num.Most - 1},
	} {
		if a := num.Add(c.a, c.b); a != c.add {
			t.Errorf("Add(%d, %d): %d, not %d", c.a, c.b, a, c.add)
		}
		if m := num.Mul(c.a, c.b); m != c.mul {
			t.Errorf("Mul(%d, %d): %d, not %d", c.a, c.b, m, c.mul)
		}
	}
}

// P1.2
func TestFloorMod(t *testing.T) {
	for _, a := range edges() {
		for _, b := range edges() {
			q, r := new(big.Int), new(big.Int)
			if b >= 1 {
				q.DivMod(large(a), large(b), r) // what is left is not below 0: rounded down
			}
			same(t, num.Floor(a, b), q, "Floor", a, b)
			same(t, num.Mod(a, b), r, "Mod", a, b)
		}
	}
	if num.Floor(-7, 2) != -4 || num.Mod(-7, 2) != 1 || num.Floor(7, 2) != 3 || num.Mod(7, 2) != 1 {
		t.Error("sevens")
	}
	if num.Floor(7, 0) != 0 || num.Mod(7, 0) != 0 || num.Floor(7, -2) != 0 || num.Mod(7, -2) != 0 {
		t.Error("divided by less than 1")
	}
}

// P1.3
func TestRound(t *testing.T) {
	for _, a := range edges() {
		for _, n := range []int{math.MinInt, -1, 0, 1, 2, 3, 7, 31, 32, 60, 61, 62, 63, 64, 65, math.MaxInt} {
			m := max(0, min(n, 62))
			// (2 a + 2^m) / 2^(m+1), rounded down
			sum := new(big.Int).Lsh(held(large(a)), 1)
			sum.Add(sum, power(m))
			same(t, num.Round(a, n), sum.Rsh(sum, uint(m+1)), "Round", a, n)
		}
	}
	for _, c := range [][3]int{{5, 1, 3}, {-5, 1, -2}, {6, 2, 2}, {-6, 2, -1}, {5, 2, 1}, {7, 2, 2}, {9, -3, 9}, {num.Most, 70, 1}, {math.MaxInt, 0, num.Most}} {
		if r := num.Round(c[0], c[1]); r != c[2] {
			t.Errorf("Round(%d, %d): %d, not %d", c[0], c[1], r, c[2])
		}
	}
}

// P1.4
func TestClamp(t *testing.T) {
	for _, x := range few() {
		for _, lo := range few() {
			for _, hi := range few() {
				want := x
				if x < lo || hi < lo {
					want = lo
				} else if x > hi {
					want = hi
				}
				if got := num.Clamp(x, lo, hi); got != want {
					t.Errorf("Clamp(%d, %d, %d): %d, not %d", x, lo, hi, got, want)
				}
			}
		}
	}
	if num.Clamp(5, 7, 3) != 7 || num.Clamp(9, 7, 3) != 7 || num.Clamp(1, 7, 3) != 7 {
		t.Error("crossed ends")
	}
}

// P1.4
func TestRangeFits(t *testing.T) {
	counts := []int{math.MinInt, math.MaxInt}
	for n := -3; n <= 130; n++ {
		counts = append(counts, n)
	}
	for _, n := range counts {
		none := n < 1 || n > 62
		least, most := new(big.Int), new(big.Int)
		if !none {
			least.Neg(power(n - 1))
			most.Sub(power(n-1), big.NewInt(1))
		}
		lo, hi := num.Range(n)
		same(t, lo, least, "Range, the least,", n)
		same(t, hi, most, "Range, the greatest,", n)
		for _, x := range edges() {
			want := !none && large(x).Cmp(least) >= 0 && large(x).Cmp(most) <= 0
			if num.Fits(x, n) != want {
				t.Errorf("Fits(%d, %d): %v", x, n, !want)
			}
		}
	}
}

// P1.5
func TestZigZag(t *testing.T) {
	for _, x := range edges() {
		want := new(big.Int).Lsh(large(x), 1)
		if x < 0 {
			want.Neg(want).Sub(want, big.NewInt(1))
		}
		u := num.Zig(x)
		if new(big.Int).SetUint64(uint64(u)).Cmp(want) != 0 {
			t.Errorf("Zig(%d): %d, not %s", x, u, want)
		}
		if num.Zag(u) != x {
			t.Errorf("Zag(%d): %d, not %d", u, num.Zag(u), x)
		}
	}
	for u, x := range []int{0, -1, 1, -2, 2, -3, 3} {
		if num.Zag(uint(u)) != x || num.Zig(x) != uint(u) {
			t.Error(u, x)
		}
	}
	if num.Zag(math.MaxUint) != math.MinInt || num.Zag(math.MaxUint-1) != math.MaxInt {
		t.Error("ends")
	}
}

// P1.6
func TestWidth(t *testing.T) {
	for n, u := range []uint{0, 1, 2, 4, 8} {
		if num.Width(u) != n {
			t.Errorf("Width(%d): %d", u, num.Width(u))
		}
	}
	for n := 1; n <= 64; n++ {
		least := uint(1) << (n - 1)
		if num.Width(least) != n || num.Width(2*least-1) != n || num.Width(least-1) != n-1 {
			t.Error(n)
		}
	}
}

// P1.6
func TestNeed(t *testing.T) {
	for _, x := range edges() {
		want := 1
		for large(x).Cmp(new(big.Int).Neg(power(want-1))) < 0 || large(x).Cmp(power(want-1)) >= 0 {
			want++
		}
		if n := num.Need(x); n != want {
			t.Errorf("Need(%d): %d, not %d", x, n, want)
		}
	}
	for _, c := range [][2]int{{0, 1}, {-1, 1}, {1, 2}, {-2, 2}, {-128, 8}, {127, 8}, {128, 9}, {-129, 9}, {math.MaxInt, 64}, {math.MinInt, 64}} {
		if n := num.Need(c[0]); n != c[1] {
			t.Errorf("Need(%d): %d, not %d", c[0], n, c[1])
		}
	}
}

// isRoot tells whether r is the greatest number whose square is not above n.
func isRoot(r, n int) bool {
	if n < 0 {
		return r == 0
	}
	high, low := bits.Mul64(uint64(r), uint64(r))
	highNext, lowNext := bits.Mul64(uint64(r+1), uint64(r+1))
	return r >= 0 && high == 0 && low <= uint64(n) && (highNext > 0 || lowNext > uint64(n))
}

// P1.7
func TestRoot(t *testing.T) {
	l := edges()
	for r := range 2000 {
		l = append(l, r*r-1, r*r, r*r+1)
	}
	for r := 3037000499; r > 3037000399; r-- {
		l = append(l, r*r-1, r*r, r*r+1)
	}
	for _, n := range l {
		if r := num.Root(n); !isRoot(r, n) {
			t.Errorf("Root(%d): %d", n, r)
		}
	}
	if num.Root(99) != 9 || num.Root(100) != 10 || num.Root(-1) != 0 || num.Root(math.MaxInt) != 3037000499 {
		t.Error("known roots")
	}
}

// P1.8
func TestZigZagLeadBack(t *testing.T) {
	for i := range 1 << 12 {
		x, u := i-1<<11, uint(i)
		if num.Zag(num.Zig(x)) != x || num.Zig(num.Zag(u)) != u || num.Zig(num.Zag(^u)) != ^u {
			t.Fatal(i)
		}
	}
}

// P1.9
func TestClampToRangeFits(t *testing.T) {
	for n := 1; n <= 62; n++ {
		lo, hi := num.Range(n)
		for _, x := range edges() {
			c := num.Clamp(x, lo, hi)
			if !num.Fits(c, n) || num.Fits(x, n) && c != x {
				t.Errorf("%d, to %d bits: %d", x, n, c)
			}
		}
	}
}
