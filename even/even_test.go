package even_test

import (
	"bytes"
	"math"
	"math/bits"
	"slices"
	"strconv"
	"strings"
	"testing"

	"descant/api"
	"descant/bitio"
	"descant/even"
)

const (
	longest   = 1 << 20 // numbers that are got in one call
	mostSpan  = 1 << 40 // the greatest span
	mostBound = 1 << 38 // the greatest bound
)

// noise is numbers that look like chance, and are the same ones at each run.
type noise uint64

func (x *noise) next() uint {
	*x = *x*6364136223846793005 + 1442695040888963407
	return uint(*x >> 33)
}

// below is a number below n.
func (x *noise) below(n uint) uint {
	return (x.next()<<31 | x.next()) % n
}

// list is count numbers of the span.
func (x *noise) list(count int, n uint) []uint {
	l := make([]uint, count)
	for i := range l {
		l[i] = x.below(n)
	}
	return l
}

// digits are the lowest n bits of u, as a text.
func digits(u uint, n int) string {
	s := strings.Repeat("0", 64) + strconv.FormatUint(uint64(u), 2)
	return s[len(s)-n:]
}

// code is a number's code, as the words say it; the number must be one of the span.
func code(v, n uint) string {
	b := bits.Len(n - 1)
	s := uint(1)<<b - n
	if v < s {
		return digits(v, b-1)
	}
	return digits(v+s, b)
}

func codes(l []uint, n uint) string {
	var s strings.Builder
	for _, v := range l {
		s.WriteString(code(v, n))
	}
	return s.String()
}

// packed is a text of bits as bytes, with bits 0 behind.
func packed(s string) []byte {
	s += strings.Repeat("0", (8-len(s)%8)%8)
	b := make([]byte, 0, len(s)/8)
	for ; s != ""; s = s[8:] {
		v, _ := strconv.ParseUint(s[:8], 2, 8)
		b = append(b, byte(v))
	}
	return b
}

// reader is a reader that has the bits of the text, and no other ones: it stands behind bits 1 that fill up the first byte.
func reader(s string) *bitio.Reader {
	ahead := (8 - len(s)%8) % 8
	r := bitio.Read(packed(strings.Repeat("1", ahead) + s))
	r.Get(ahead)
	return r
}

// has fails, if the writer has other bits than those of the text.
func has(t *testing.T, w *bitio.Writer, s string) {
	t.Helper()
	if w.Len() != len(s) || !bytes.Equal(w.Bytes(), packed(s)) {
		t.Fatalf("%d bits %x, not %d bits %x", w.Len(), w.Bytes(), len(s), packed(s))
	}
}

func is(t *testing.T, got, want api.Errno) {
	t.Helper()
	if got != want {
		t.Fatalf("error %d, not %d", got, want)
	}
}

// spans are all small ones, the powers of 2, and what is next to these, up to the greatest one.
func spans() []uint {
	var l []uint
	for n := range uint(40) {
		l = append(l, n+1)
	}
	for b := 6; b < 40; b++ {
		l = append(l, 1<<b-1, 1<<b, 1<<b+1, 3<<b>>1)
	}
	return append(l, 1000000, mostSpan-2, mostSpan-1, mostSpan)
}

// noSpans are some that are none.
func noSpans() []uint {
	return []uint{0, mostSpan + 1, mostSpan + 2, 1 << 41, 1<<62 + 1, 1 << 63, math.MaxUint}
}

// numbers are numbers of the span: its ends, those where codes get longer, and some between.
func numbers(n uint) []uint {
	s := uint(1)<<bits.Len(n-1) - n
	x := noise(n)
	l := append(x.list(5, n), 0, 1, 2, s-2, s-1, s, s+1, n/2, n-2, n-1)
	return slices.DeleteFunc(l, func(v uint) bool { return v >= n })
}

// misfits are numbers that are none of the span.
func misfits(n uint) []uint {
	return []uint{n, n + 1, 2*n + 1, mostSpan, mostSpan + 1, 1 << 63, math.MaxUint}
}

// P8.1, P8.2, P8.3, and the chapter's example.
func TestExample(t *testing.T) {
	for v, s := range []string{"00", "01", "10", "110", "111"} {
		w := &bitio.Writer{}
		is(t, even.Put(w, uint(v), 5), api.OK)
		has(t, w, s)
		if cost := even.Cost(uint(v), 5); cost != len(s) {
			t.Errorf("%d: %d bits, not %d", v, cost, len(s))
		}
		if got, e := even.Get(reader(s), 5); got != uint(v) || e != api.OK {
			t.Errorf("%s: %d, error %d, not %d", s, got, e, v)
		}
	}
	w := &bitio.Writer{}
	is(t, even.PutAll(w, []uint{4, 0, 3, 2, 1}, 5), api.OK)
	has(t, w, "111"+"00"+"110"+"10"+"01")
	if total := even.Total([]uint{4, 0, 3, 2, 1}, 5); total != 12 {
		t.Error(total)
	}
}

// P8.1, P8.5
func TestCost(t *testing.T) {
	for _, c := range []struct {
		v, n uint
		cost int
	}{{0, 1, 0}, {1, 1, 0}, {0, 2, 1}, {1, 2, 1}, {2, 2, 0}, {0, 3, 1}, {1, 3, 2}, {2, 3, 2}, {3, 3, 0}, {3, 4, 2}, {0, mostSpan, 40}, {mostSpan - 1, mostSpan, 40}, {mostSpan, mostSpan, 0}, {0, mostSpan - 1, 39}, {1, mostSpan - 1, 40}, {0, 0, 0}, {0, mostSpan + 1, 0}} {
		if cost := even.Cost(c.v, c.n); cost != c.cost {
			t.Errorf("Cost(%d, %d): %d, not %d", c.v, c.n, cost, c.cost)
		}
	}
	for _, n := range spans() {
		for _, v := range numbers(n) {
			cost := even.Cost(v, n)
			if cost != len(code(v, n)) {
				t.Errorf("Cost(%d, %d): %d, not %d", v, n, cost, len(code(v, n)))
			}
			if first := even.Cost(0, n); cost != first && cost != first+1 {
				t.Errorf("Cost(%d, %d): %d, but of 0 %d", v, n, cost, first)
			}
		}
		for _, v := range misfits(n) {
			if cost := even.Cost(v, n); cost != 0 {
				t.Errorf("Cost(%d, %d): %d", v, n, cost)
			}
		}
	}
	for _, n := range noSpans() {
		for _, v := range append(misfits(n), 0, 1, n/2, n-1) {
			if cost := even.Cost(v, n); cost != 0 {
				t.Errorf("Cost(%d, %d): %d", v, n, cost)
			}
		}
	}
}

// P8.1: numbers that have no code cost nothing, also among others.
func TestTotal(t *testing.T) {
	x := noise(1)
	for _, n := range spans() {
		for _, l := range [][]uint{nil, {}, {0}, {n - 1}, numbers(n), x.list(50, n)} {
			kept, want := slices.Clone(l), len(codes(l, n))
			if total := even.Total(l, n); total != want {
				t.Errorf("Total(%v, %d): %d, not %d", l, n, total, want)
			}
			if total := even.Total(slices.Concat(misfits(n), l, misfits(n)), n); total != want {
				t.Errorf("Total(%v, %d), and more: %d, not %d", l, n, total, want)
			}
			if !slices.Equal(l, kept) {
				t.Error("changed")
			}
		}
	}
	for _, n := range noSpans() {
		if total := even.Total([]uint{0, 1, 2, n - 1, n}, n); total != 0 {
			t.Errorf("of the span %d: %d", n, total)
		}
	}
}

// P8.2
func TestPut(t *testing.T) {
	x := noise(2)
	for _, n := range spans() {
		all, s := &bitio.Writer{}, ""
		for _, v := range numbers(n) {
			w := &bitio.Writer{}
			is(t, even.Put(w, v, n), api.OK)
			has(t, w, code(v, n))
			is(t, even.Put(all, v, n), api.OK)
			s += code(v, n)
			has(t, all, s)
		}
		for _, l := range [][]uint{nil, {}, {n - 1}, numbers(n), x.list(50, n)} {
			w, kept := &bitio.Writer{}, slices.Clone(l)
			w.Put(1, 2)
			is(t, even.PutAll(w, l, n), api.OK)
			has(t, w, "01"+codes(l, n))
			if !slices.Equal(l, kept) {
				t.Error("changed")
			}
		}
	}
}

// P8.2: what is refused, in which order, and that nothing is written then.
func TestPutRefuses(t *testing.T) {
	w := &bitio.Writer{}
	w.Put(5, 3)
	for _, n := range append(spans(), noSpans()...) {
		is(t, even.PutAll(nil, nil, n), api.ErrNil)
		for _, v := range append(misfits(n), 0, n-1) {
			is(t, even.Put(nil, v, n), api.ErrNil)
			is(t, even.PutAll(nil, []uint{v}, n), api.ErrNil)
		}
	}
	for _, n := range noSpans() {
		is(t, even.PutAll(w, nil, n), api.ErrArg)
		for _, v := range append(misfits(n), 0, n-1) {
			is(t, even.Put(w, v, n), api.ErrArg)
			is(t, even.PutAll(w, []uint{0, v}, n), api.ErrArg)
		}
	}
	for _, n := range spans() {
		for _, v := range misfits(n) {
			is(t, even.Put(w, v, n), api.ErrRange)
			for _, l := range [][]uint{{v}, {v, 0, n - 1}, {0, v, n - 1}, {0, n - 1, v}, {v, v}} {
				is(t, even.PutAll(w, l, n), api.ErrRange)
			}
		}
	}
	has(t, w, "101")
}

// P8.3, P8.5: what is put is got, and nothing behind it is read.
func TestGet(t *testing.T) {
	for _, n := range spans() {
		for _, v := range numbers(n) {
			for _, behind := range []string{"", "0", "1", "10110"} {
				r := reader(code(v, n) + behind)
				if got, e := even.Get(r, n); got != v || e != api.OK || r.Left() != len(behind) {
					t.Fatalf("Get of %d of the span %d: %d, error %d, %d bits left", v, n, got, e, r.Left())
				}
			}
		}
	}
}

// P8.3: bits that are missing, wherever the code is cut off.
func TestGetEnds(t *testing.T) {
	for _, n := range spans() {
		for _, v := range numbers(n) {
			s := code(v, n)
			for m := range len(s) {
				if got, e := even.Get(reader(s[:m]), n); got != 0 || e != api.ErrEnd {
					t.Fatalf("%d of %d bits, of the span %d: %d, error %d", m, len(s), n, got, e)
				}
				if l, e := even.GetAll(reader(code(n/2, n)+s[:m]), 2, n); len(l) > 0 || e != api.ErrEnd {
					t.Fatalf("one, and %d of %d bits, of the span %d: %d, error %d", m, len(s), n, l, e)
				}
			}
		}
	}
	if got, e := even.Get(&bitio.Reader{}, 2); got != 0 || e != api.ErrEnd {
		t.Error("a reader of nothing", got, e)
	}
}

// P8.3: what is refused ahead of reading, and in which order.
func TestGetRefuses(t *testing.T) {
	counts := []int{math.MinInt, -1 << 32, -1, longest + 1, 1 << 32, math.MaxInt}
	refuses := func(r *bitio.Reader, count int, n uint, wanted api.Errno) {
		t.Helper()
		if l, e := even.GetAll(r, count, n); e != wanted || len(l) > 0 {
			t.Fatalf("%d of the span %d: %d, error %d, not %d", count, n, l, e, wanted)
		}
	}
	for _, n := range append(spans(), noSpans()...) {
		if got, e := even.Get(nil, n); got != 0 || e != api.ErrNil {
			t.Error("nil", got, e)
		}
		for _, count := range append(counts, 0, 1, longest) {
			refuses(nil, count, n, api.ErrNil)
		}
		for _, count := range counts {
			refuses(bitio.Read([]byte{1, 2, 3}), count, n, api.ErrArg)
			refuses(bitio.Read(nil), count, n, api.ErrArg)
		}
	}
	for _, n := range noSpans() {
		for _, b := range [][]byte{nil, {1, 2, 3, 4, 5, 6, 7, 8, 9}} {
			if got, e := even.Get(bitio.Read(b), n); got != 0 || e != api.ErrArg {
				t.Error("no span", n, got, e)
			}
			for _, count := range []int{0, 1, longest} {
				refuses(bitio.Read(b), count, n, api.ErrArg)
			}
		}
	}
}

// P8.3: none, as many as may be, and that one is missing.
func TestGetAllEdges(t *testing.T) {
	for _, n := range spans() {
		for _, r := range []*bitio.Reader{bitio.Read(nil), bitio.Read([]byte{255}), {}} {
			if l, e := even.GetAll(r, 0, n); e != api.OK || len(l) != 0 || r.At() != 0 {
				t.Error("none", n, l, e)
			}
		}
	}
	r := bitio.Read(make([]byte, longest/8))
	if l, e := even.GetAll(r, longest, 2); e != api.OK || len(l) != longest || slices.Max(l) != 0 || r.Left() != 0 {
		t.Error("as many as may be", len(l), e)
	}
	if l, e := even.GetAll(bitio.Read(make([]byte, longest/8-1)), longest, 2); e != api.ErrEnd || len(l) != 0 {
		t.Error("some are missing", len(l), e)
	}
	r = bitio.Read([]byte{255})
	if l, e := even.GetAll(r, longest, 1); e != api.OK || len(l) != longest || slices.Max(l) != 0 || r.At() != 0 {
		t.Error("of no bits", len(l), e)
	}
	if v, e := even.Get(&bitio.Reader{}, 1); v != 0 || e != api.OK {
		t.Error("of no bits", v, e)
	}
}

// P8.3, P8.5: what is put is got, in as many bits as it costs; more than 2^20 numbers are put, too.
func TestPutAllGetAll(t *testing.T) {
	x := noise(3)
	for _, n := range spans() {
		for _, count := range []int{1, 2, 30, 300} {
			l, w := x.list(count, n), &bitio.Writer{}
			is(t, even.PutAll(w, l, n), api.OK)
			if total := even.Total(l, n); w.Len() != total {
				t.Errorf("%d bits, not %d", w.Len(), total)
			}
			w.Put(5, 3)
			r := bitio.Read(w.Bytes())
			got, e := even.GetAll(r, count, n)
			if is(t, e, api.OK); !slices.Equal(got, l) {
				t.Fatal(n, count, got, l)
			}
			if behind, _ := r.Get(3); behind != 5 {
				t.Error("bits behind were read")
			}
		}
	}
	l, w := x.list(longest+1, 3), &bitio.Writer{}
	is(t, even.PutAll(w, l, 3), api.OK)
	if total := even.Total(l, 3); w.Len() != total {
		t.Errorf("%d bits, not %d", w.Len(), total)
	}
	got, e := even.GetAll(bitio.Read(w.Bytes()), longest, 3)
	if is(t, e, api.OK); !slices.Equal(got, l[:longest]) {
		t.Error("not what was put")
	}
}

// P8.6: whatever bits are there, what is got is put as the bits that it was.
func TestGetPut(t *testing.T) {
	try := func(s string, n uint) {
		r := reader(s)
		v, e := even.Get(r, n)
		if e != api.OK || v >= n {
			t.Fatalf("%s of the span %d: %d, error %d", s, n, v, e)
		}
		w := &bitio.Writer{}
		is(t, even.Put(w, v, n), api.OK)
		has(t, w, s[:len(s)-r.Left()])
	}
	for n := range uint(70) {
		for v := range uint(1 << 7) {
			try(digits(v, 7), n+1)
		}
	}
	x := noise(4)
	for _, n := range spans() {
		for range 100 {
			try(digits(x.below(mostSpan), 40), n)
		}
		try(strings.Repeat("0", 40), n)
		try(strings.Repeat("1", 40), n)
	}
}

// bounds are some that may be, their ends among them.
func bounds() []int {
	return []int{0, 1, 2, 3, 100, 1<<31 - 1, 1 << 31, 1<<31 + 1, mostBound - 1, mostBound}
}

// P8.4
func TestCentreOff(t *testing.T) {
	for _, bound := range bounds() {
		for _, x := range []int{-bound, -bound + 1, -bound / 2, -1, 0, 1, bound / 3, bound - 1, bound} {
			if x < -bound || x > bound {
				continue
			}
			v, e := even.Centre(x, bound)
			if e != api.OK || v != uint(x+bound) || v >= uint(2*bound+1) {
				t.Errorf("Centre(%d, %d): %d, error %d", x, bound, v, e)
			}
			if again, e := even.Off(v, bound); e != api.OK || again != x {
				t.Errorf("Off(%d, %d): %d, error %d", v, bound, again, e)
			}
		}
		// A number of this span is one of even's.
		is(t, even.Put(&bitio.Writer{}, uint(2*bound), uint(2*bound+1)), api.OK)
	}
}

// P8.4: what is refused, and in which order.
func TestCentreOffRefuse(t *testing.T) {
	centre := func(x, bound int, wanted api.Errno) {
		t.Helper()
		if v, e := even.Centre(x, bound); v != 0 || e != wanted {
			t.Errorf("Centre(%d, %d): %d, error %d, not %d", x, bound, v, e, wanted)
		}
	}
	off := func(v uint, bound int, wanted api.Errno) {
		t.Helper()
		if x, e := even.Off(v, bound); x != 0 || e != wanted {
			t.Errorf("Off(%d, %d): %d, error %d, not %d", v, bound, x, e, wanted)
		}
	}
	for _, bound := range bounds() {
		for _, beyond := range []int{bound + 1, bound + 2, 2*bound + 1, 1 << 40, 1 << 62, math.MaxInt} {
			centre(beyond, bound, api.ErrRange)
			centre(-beyond, bound, api.ErrRange)
		}
		centre(math.MinInt, bound, api.ErrRange)
		for _, v := range []uint{uint(2*bound) + 1, uint(2*bound) + 2, 1 << 40, 1 << 63, math.MaxUint} {
			off(v, bound, api.ErrRange)
		}
	}
	for _, bound := range []int{-1, -2, -mostBound, math.MinInt, mostBound + 1, mostBound + 2, 1 << 62, math.MaxInt} {
		for _, x := range []int{0, 1, -1, bound, bound - 1, math.MaxInt, math.MinInt} {
			centre(x, bound, api.ErrArg)
			off(uint(x), bound, api.ErrArg)
		}
	}
}
