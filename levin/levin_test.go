package levin_test

import (
	"math"
	"math/big"
	"slices"
	"testing"

	"descant/api"
	"descant/levin"
)

const (
	one   = 1 << 24
	least = 1 << 30   // the least first number of a norm
	most  = 1<<31 - 1 // the greatest one
	held  = 1 << 62   // where numbers stop
	far   = 1 << 31   // how far from 0 a coefficient may be
)

// noise is numbers that look like chance, and are the same ones at each run.
type noise uint64

func (x *noise) next(n int) int {
	*x = *x*6364136223846793005 + 1442695040888963407
	return int(*x >> 33 % noise(n))
}

// number is a number of so many bits, up to 64.
func (x *noise) number(bits int) int {
	return (x.next(1<<31)<<33 ^ x.next(1<<31)<<13 ^ x.next(1<<31)) >> (64 - bits)
}

// list is n numbers of so many bits, the first of which is above 0.
func (x *noise) list(n, bits int) []int {
	l := make([]int, n)
	for i := range l {
		l[i] = x.number(bits)
	}
	l[0] = max(1, l[0], -(l[0] + 1))
	return l
}

// alike is how like itself a wave with some noise is, as far as n places on.
func (x *noise) alike(n int) []int {
	wave, at, up := make([]int, 300), 0, 1+x.next(1000)
	turn, loud := 1+x.next(200), 1+x.next(1000)
	for i := range wave {
		up -= at * turn / 1000
		at += up
		wave[i] = at + x.next(loud)
	}
	l := make([]int, n)
	for j := range l {
		for i := range len(wave) - j {
			l[j] += wave[i] * wave[i+j]
		}
	}
	return l
}

// floor is a divided by b, rounded down.
func floor(a, b *big.Int) *big.Int {
	q, rest := new(big.Int).QuoRem(a, b, new(big.Int))
	if rest.Sign()*b.Sign() < 0 {
		q.Sub(q, big.NewInt(1))
	}
	return q
}

// large is a number without end.
func large(x int) *big.Int {
	return big.NewInt(int64(x))
}

// between is a number, as far from 0 as another one, if it is further.
func between(x, end *big.Int) *big.Int {
	switch {
	case x.CmpAbs(end) <= 0:
		return x
	case x.Sign() < 0:
		return new(big.Int).Neg(end)
	}
	return end
}

// normOf is the norm, looked for power by power.
func normOf(r []int) []int {
	if len(r) == 0 || r[0] <= 0 {
		return nil
	}
	for power := -40; power <= 40; power++ {
		up, down := large(1), large(1)
		if power < 0 {
			up.Lsh(up, uint(-power))
		} else {
			down.Lsh(down, uint(power))
		}
		var norm []int
		first := large(0)
		for i, x := range r {
			y := between(large(x), large(held))
			y = floor(new(big.Int).Mul(y, up), down)
			if i == 0 {
				first = y
			}
			norm = append(norm, int(between(y, first).Int64()))
		}
		if first.Cmp(large(least)) >= 0 && first.Cmp(large(most)) <= 0 {
			return norm
		}
	}
	return nil
}

// part is a times b, of which one is a multiple of 1 / one.
func part(a, b *big.Int) *big.Int {
	return floor(new(big.Int).Mul(a, b), large(one))
}

// wanted is the a of a norm's number i, with the coefficients c_1, c_2, and so on up to i - 1.
func wanted(norm []int, c map[int]*big.Int, i int) *big.Int {
	a := large(norm[i])
	for j := 1; j < i; j++ {
		a.Sub(a, part(c[j], large(norm[i-j])))
	}
	return a
}

// behind are the coefficients behind those of i - 1 steps, by the k of the next one.
func behind(c map[int]*big.Int, k *big.Int, i int) map[int]*big.Int {
	after := map[int]*big.Int{i: k}
	for j := 1; j < i; j++ {
		after[j] = between(new(big.Int).Sub(c[j], part(k, c[i-j])), large(far))
	}
	return after
}

// listed are the coefficients c_1 up to c_i.
func listed(c map[int]*big.Int, i int) []int {
	var l []int
	for j := 1; j <= i; j++ {
		l = append(l, int(c[j].Int64()))
	}
	return l
}

// stepsOf are all steps, word by word.
func stepsOf(r []int, order int) []levin.Step {
	norm := normOf(r)
	if len(norm) == 0 {
		return nil
	}
	var all []levin.Step
	c, err := map[int]*big.Int{}, large(norm[0])
	for i := 1; i < len(norm) && i <= order && i <= api.MaxOrder && err.Sign() > 0; i++ {
		a := wanted(norm, c, i)
		if a.CmpAbs(err) >= 0 {
			break
		}
		k := floor(new(big.Int).Mul(a, large(one)), err)
		c = behind(c, k, i)
		err = new(big.Int).Sub(err, part(part(k, k), err))
		all = append(all, levin.Step{K: int(k.Int64()), Err: int(err.Int64()), Coefs: listed(c, i)})
	}
	return all
}

// same tells whether steps are alike.
func same(a, b []levin.Step) bool {
	return slices.EqualFunc(a, b, func(x, y levin.Step) bool {
		return x.K == y.K && x.Err == y.Err && slices.Equal(x.Coefs, y.Coefs)
	})
}

// solved holds what is answered of a list against the model, and tells the steps.
func solved(t *testing.T, r []int, order int) []levin.Step {
	t.Helper()
	kept := slices.Clone(r)
	norm, steps, coefs := levin.Norm(r), levin.Solve(r, order), levin.Coefs(r, order)
	if want := normOf(r); !slices.Equal(norm, want) {
		t.Errorf("the norm of %v: %v, not %v", r, norm, want)
	}
	want := stepsOf(r, order)
	if !same(steps, want) {
		t.Errorf("the steps of %v up to %d: %v, not %v", r, order, steps, want)
	}
	var last []int
	if len(want) > 0 {
		last = want[len(want)-1].Coefs
	}
	if !slices.Equal(coefs, last) {
		t.Errorf("the coefficients of %v up to %d: %v, not %v", r, order, coefs, last)
	}
	if !slices.Equal(r, kept) {
		t.Error("what was handed in has changed")
	}
	return steps
}

// P11.1: norms by hand.
func TestNorm(t *testing.T) {
	for _, c := range []struct{ r, want []int }{
		{nil, nil},
		{[]int{}, nil},
		{[]int{0}, nil},
		{[]int{0, 5}, nil},
		{[]int{-1, 5}, nil},
		{[]int{math.MinInt, 5, -5}, nil},
		{[]int{1}, []int{least}},
		{[]int{1, 1, -1, 0}, []int{least, least, -least, 0}},
		{[]int{1, 2, -2}, []int{least, least, -least}},
		{[]int{1, held, -held, math.MaxInt, math.MinInt}, []int{least, least, -least, least, -least}},
		{[]int{3, 2, -1, 4, -4}, []int{3 << 29, 1 << 30, -1 << 29, 3 << 29, -3 << 29}},
		{[]int{least - 1, 7, -7}, []int{1<<31 - 2, 14, -14}},
		{[]int{least, 7, -7, least + 1, -least - 1}, []int{least, 7, -7, least, -least}},
		{[]int{least + 1, least, -least - 1}, []int{least + 1, least, -least - 1}},
		{[]int{most, 7, -7, most + 1, -most - 1}, []int{most, 7, -7, most, -most}},
		{[]int{most + 1, 7, -7, 1, -1, -2}, []int{least, 3, -4, 0, -1, -1}},
		{[]int{most + 2, most + 2, most + 3}, []int{least, least, least}},
		{[]int{1<<32 - 1, 1<<32 - 1, -1 << 32}, []int{most, most, -most}},
		// -most - 1 is further from 0 than most is.
		{[]int{1<<32 - 1, -1<<32 + 1}, []int{most, -most}},
		{[]int{1 << 40, 1023, 1024, -1, -1024, -1025}, []int{least, 0, 1, -1, -1, -2}},
		{[]int{held - 1, 1<<31 - 1, 1 << 31, -1}, []int{most, 0, 1, -1}},
		{[]int{held, 1<<32 - 1, 1 << 32, -1, held + 1, -held - 1}, []int{least, 0, 1, -1, least, -least}},
		{[]int{held + 1<<32, held}, []int{least, least}},
		{[]int{math.MaxInt, 1 << 32, math.MaxInt, math.MinInt}, []int{least, 1, least, -least}},
	} {
		kept := slices.Clone(c.r)
		if got := levin.Norm(c.r); !slices.Equal(got, c.want) || !slices.Equal(c.r, kept) {
			t.Errorf("of %v %v, not %v", kept, got, c.want)
		}
	}
}

// P11.1: norms of numbers of all widths, and of more of them than there are orders.
func TestNorms(t *testing.T) {
	x := noise(1)
	for bits := 2; bits <= 64; bits++ {
		for range 20 {
			r := append(x.list(1+x.next(50), bits), x.number(1+x.next(64)))
			if got, want := levin.Norm(r), normOf(r); len(want) == 0 || !slices.Equal(got, want) {
				t.Errorf("of %v %v, not %v", r, got, want)
			}
		}
	}
}

// P11.1: what is answered is new memory, also where nothing is divided.
func TestNormIsNew(t *testing.T) {
	r := []int{least, 1}
	levin.Norm(r)[1] = 9
	if r[1] != 1 {
		t.Error("what was handed in is answered")
	}
}

// P11.2, P11.3: steps by hand.
func TestSteps(t *testing.T) {
	for _, c := range []struct {
		r    []int
		want []levin.Step
	}{
		{[]int{4, 2}, []levin.Step{{K: one / 2, Err: 3 << 28, Coefs: []int{one / 2}}}},
		{[]int{4, -2}, []levin.Step{{K: -one / 2, Err: 3 << 28, Coefs: []int{-one / 2}}}},
		{[]int{8, 4, 2}, []levin.Step{
			{K: one / 2, Err: 3 << 28, Coefs: []int{one / 2}},
			{K: 0, Err: 3 << 28, Coefs: []int{one / 2, 0}},
		}},
		// a: -4 - 2; k: -6 / 6 of what is left may not be.
		{[]int{8, 4, -4}, []levin.Step{{K: one / 2, Err: 3 << 28, Coefs: []int{one / 2}}}},
		// a: -1 - 2; k: -3 / 6; c_1: 1/2 + 1/4.
		{[]int{8, 4, -1}, []levin.Step{
			{K: one / 2, Err: 3 << 28, Coefs: []int{one / 2}},
			{K: -one / 2, Err: 9 << 26, Coefs: []int{3 * one / 4, -one / 2}},
		}},
		{[]int{8, 0, 0, 4}, []levin.Step{
			{K: 0, Err: least, Coefs: []int{0}},
			{K: 0, Err: least, Coefs: []int{0, 0}},
			{K: one / 2, Err: 3 << 28, Coefs: []int{0, 0, one / 2}},
		}},
		// a third, rounded down, on either side of 0.
		{[]int{3, 1}, []levin.Step{{K: 5592405, Err: 1610612736 - 178956864, Coefs: []int{5592405}}}},
		{[]int{3, -1}, []levin.Step{{K: -5592406, Err: 1610612736 - 178956960, Coefs: []int{-5592406}}}},
	} {
		if got := solved(t, c.r, len(c.r)); !same(got, c.want) {
			t.Errorf("of %v %v, not %v", c.r, got, c.want)
		}
	}
	if got := levin.Coefs([]int{4, 2}, 1); !slices.Equal(got, []int{1 << 23}) {
		t.Error(got)
	}
}

// P11.2, P11.3: lists of which there is no step.
func TestNoStep(t *testing.T) {
	for _, r := range [][]int{
		nil, {}, {0}, {0, 1}, {-4, 2}, {math.MinInt, 1, 1}, {1}, {4}, {math.MaxInt},
		{4, 4}, {4, -4}, {4, 5, 1}, {4, -5, 1}, {least, least, 0}, {least, -least, 0}, {most, most}, {most, -most},
		{1, math.MaxInt}, {1, math.MinInt}, {held, math.MaxInt}, {1<<32 - 1, -1<<32 + 1},
	} {
		if got := solved(t, r, api.MaxOrder); len(got) != 0 {
			t.Errorf("of %v %v", r, got)
		}
	}
	for _, order := range []int{0, -1, math.MinInt} {
		if got := solved(t, []int{4, 2, 1}, order); len(got) != 0 {
			t.Errorf("up to %d: %v", order, got)
		}
	}
}

// P11.2: an a that is one nearer to 0 than err, and a k at either end.
func TestNearlyErr(t *testing.T) {
	for _, c := range []struct {
		first, second int
		want          levin.Step
	}{
		{least, least - 1, levin.Step{K: one - 1, Err: 1 << 7, Coefs: []int{one - 1}}},
		{least, 1 - least, levin.Step{K: -one, Err: 0, Coefs: []int{-one}}},
		{most, most - 1, levin.Step{K: one - 1, Err: 1 << 8, Coefs: []int{one - 1}}},
		{most, 1 - most, levin.Step{K: -one, Err: 0, Coefs: []int{-one}}},
		{least, 64 - least, levin.Step{K: -one + 1, Err: 1 << 7, Coefs: []int{-one + 1}}},
		{least, 63 - least, levin.Step{K: -one, Err: 0, Coefs: []int{-one}}},
		{least, least - 64, levin.Step{K: one - 1, Err: 1 << 7, Coefs: []int{one - 1}}},
		{least, least - 65, levin.Step{K: one - 2, Err: 1 << 8, Coefs: []int{one - 2}}},
	} {
		if got := solved(t, []int{c.first, c.second}, 1); !same(got, []levin.Step{c.want}) {
			t.Errorf("of %d, %d: %v, not %v", c.first, c.second, got, c.want)
		}
		if c.want.Err > 0 {
			continue
		}
		// Behind an err that is 0 there is no step, whatever comes.
		for _, third := range []int{0, 1, -1, c.first, -c.first} {
			if got := solved(t, []int{c.first, c.second, third}, 2); len(got) != 1 {
				t.Errorf("behind %d, %d: %v", c.first, c.second, got)
			}
		}
	}
}

// ended are a norm's first numbers, and one with which the next a is as told.
func ended(norm []int, steps []levin.Step, a int) []int {
	c := map[int]*big.Int{}
	if len(steps) > 0 {
		for j, x := range steps[len(steps)-1].Coefs {
			c[j+1] = large(x)
		}
	}
	next := append(slices.Clone(norm), a)
	missed := wanted(next, c, len(norm))
	next[len(norm)] += a - int(missed.Int64())
	return next
}

// P11.2: further on too, an a that is as far from 0 as err ends the steps, and one that is nearer does not.
func TestNearlyErrFurtherOn(t *testing.T) {
	for _, norm := range [][]int{{least}, {least, 0}, {least, least / 2}, {least, -least / 2}, {most, most / 2, most / 4}, {most, most / 2, most / 4, -most / 5}} {
		steps := levin.Solve(norm, api.MaxOrder)
		err := norm[0]
		if len(steps) > 0 {
			err = steps[len(steps)-1].Err
		}
		for _, c := range []struct{ a, more int }{
			{err, 0}, {-err, 0}, {err + 1, 0}, {-err - 1, 0},
			{err - 1, 1}, {1 - err, 1}, {0, 1}, {1, 1}, {-1, 1}, {err - 64, 1}, {64 - err, 1},
		} {
			got := solved(t, ended(norm, steps, c.a), api.MaxOrder)
			if len(got) != len(norm)-1+c.more {
				t.Errorf("behind %v, with %d of %d: %d steps", norm, c.a, err, len(got))
			}
			if c.more == 1 && (got[len(norm)-1].K < -one || got[len(norm)-1].K >= one) {
				t.Errorf("behind %v, with %d of %d: %d", norm, c.a, err, got[len(norm)-1].K)
			}
		}
	}
}

// P11.2: there are steps behind an err that is next to nothing, too.
func TestSmallErr(t *testing.T) {
	norm := []int{least, least - 1}
	for _, a := range []int{-127, -1, 1, 0} {
		norm = ended(norm, levin.Solve(norm, api.MaxOrder), a)
	}
	var errs []int
	for _, s := range solved(t, norm, api.MaxOrder) {
		errs = append(errs, s.Err)
	}
	if !slices.Equal(errs, []int{128, 2, 2, 2, 2}) {
		t.Errorf("of %v %v", norm, errs)
	}
	for _, a := range []int{2, -2} {
		if got := solved(t, ended(norm, levin.Solve(norm, api.MaxOrder), a), api.MaxOrder); len(got) != len(errs) {
			t.Errorf("with %d of 2: %v", a, got)
		}
	}
}

// led is a norm whose steps have such ks, as near as may be, and as far as there are steps.
func led(first int, ks ...float64) []int {
	norm, err := []int{first}, float64(first)
	for i, k := range ks {
		steps := levin.Solve(norm, api.MaxOrder)
		if len(steps) < i {
			return norm
		}
		norm = ended(norm, steps, int(k*err))
		err -= k * k * err
	}
	return norm
}

// P11.2: all coefficients change at one time, that in the middle too.
func TestAllAtOneTime(t *testing.T) {
	for _, c := range []struct {
		ks, want []float64
	}{
		{[]float64{0.5, 0.5}, []float64{0.25, 0.5}},
		{[]float64{0.5, 0.5, 0.5}, []float64{0, 0.375, 0.5}},
		{[]float64{0.5, -0.25, 0.5, 0.25}, []float64{0.625, -0.4218750, 0.3125, 0.25}},
	} {
		norm := led(least, c.ks...)
		steps := solved(t, norm, len(norm))
		if len(steps) != len(c.ks) {
			t.Fatalf("of %v %v", norm, steps)
		}
		for j, got := range steps[len(steps)-1].Coefs {
			if math.Abs(float64(got)/one-c.want[j]) > 0.0001 {
				t.Errorf("%v: %d, not %v", c.ks, got, c.want[j]*one)
			}
		}
	}
}

// P11.2: coefficients are held at 2^31, on either side of 0.
func TestFarCoefs(t *testing.T) {
	up, down := false, false
	for _, k := range []float64{0.6, 0.7, 0.75, 0.8} {
		for _, other := range []float64{-k, k} {
			var ks []float64
			for i := range 28 {
				ks = append(ks, []float64{k, other}[i%2])
			}
			for _, ks := range [][]float64{ks, append([]float64{-k}, ks...)} {
				for _, s := range solved(t, led(most, ks...), api.MaxOrder) {
					for _, c := range s.Coefs {
						up, down = up || c == far, down || c == -far
						if c > far || c < -far {
							t.Errorf("%v: %d", ks, c)
						}
					}
				}
			}
		}
	}
	if !up || !down {
		t.Error("no coefficient is held", up, down)
	}
}

// P11.2, P11.3: more numbers than there are orders, and orders that are above what there is.
func TestOrders(t *testing.T) {
	x := noise(2)
	for _, n := range []int{2, 3, 31, 32, 33, 34, 60} {
		r := x.list(n, 20)
		r[0] = 1 << 24
		for _, order := range []int{1, 2, n - 2, n - 1, n, 31, 32, 33, 34, 1000, math.MaxInt} {
			steps := solved(t, r, order)
			if len(steps) != max(0, min(order, n-1, 32)) {
				t.Errorf("%d numbers up to %d: %d steps", n, order, len(steps))
			}
			for i, s := range steps {
				if len(s.Coefs) != i+1 || s.Coefs[i] != s.K {
					t.Errorf("%d numbers up to %d: step %d: %v", n, order, i+1, s)
				}
			}
		}
	}
}

// P11.2, P11.3, P11.4: lists of all kinds: what waves are like, and noise.
func TestLists(t *testing.T) {
	x := noise(3)
	for i := range 2000 {
		r := x.alike(2 + x.next(40))
		if i%2 == 0 {
			r = x.list(1+x.next(40), 2+x.next(63))
		}
		err := math.MaxInt
		for _, s := range solved(t, r, 1+x.next(34)) {
			if s.K < -one || s.K >= one || s.Err < 0 || s.Err > err {
				t.Errorf("of %v: %v behind %d", r, s, err)
			}
			err = s.Err
		}
	}
}

// P11.5: by powers of 2 nothing changes.
func TestPowers(t *testing.T) {
	x := noise(4)
	for range 200 {
		r := x.alike(2 + x.next(33))
		steps := levin.Solve(r, api.MaxOrder)
		for power := 0; power < 62; power++ {
			more := slices.Clone(r)
			for i := range more {
				more[i] <<= power
			}
			if more[0]>>power != r[0] || more[0] > held {
				break
			}
			if !same(levin.Solve(more, api.MaxOrder), steps) {
				t.Errorf("of %v, %d times doubled, there are other steps", r, power)
			}
		}
	}
}

// P11.6: a lower order has the same steps, but fewer.
func TestLowerOrders(t *testing.T) {
	x := noise(5)
	for range 200 {
		r := x.alike(2 + x.next(40))
		all := levin.Solve(r, api.MaxOrder)
		for order := range api.MaxOrder + 2 {
			if got := levin.Solve(r, order); !same(got, all[:min(order, len(all))]) {
				t.Errorf("of %v up to %d: %v of %v", r, order, got, all)
			}
		}
	}
}

// P11.2: no two steps share memory.
func TestStepsAreNew(t *testing.T) {
	r := []int{8, 4, 3, 1, 1}
	steps := levin.Solve(r, 4)
	kept := stepsOf(r, 4)
	if len(steps) != 4 {
		t.Fatal(steps)
	}
	for i := range steps {
		_ = append(steps[i].Coefs, 99)
		for j := range steps[i].Coefs {
			steps[i].Coefs[j] = 99
		}
		if !same(steps[i+1:], kept[i+1:]) {
			t.Errorf("behind step %d: %v", i+1, steps)
		}
	}
	if !same(levin.Solve(r, 4), kept) {
		t.Error("what was answered is kept")
	}
}
