package rice_test

import (
	"bytes"
	"math"
	"math/big"
	"slices"
	"strconv"
	"strings"
	"testing"

	"descant/api"
	"descant/bitio"
	"descant/rice"
)

// noise is numbers that look like chance, and are the same ones at each run.
type noise uint64

func (x *noise) next() uint {
	*x = *x*6364136223846793005 + 1442695040888963407
	return uint(*x >> 33)
}

// number is a number that is coded, of any width.
func (x *noise) number() uint {
	return (x.next()<<31 | x.next()) >> (22 + x.next()%41)
}

func (x *noise) numbers(n int) []uint {
	l := make([]uint, n)
	for i := range l {
		l[i] = x.number()
	}
	return l
}

// digits are the lowest n bits of u, as a text.
func digits(u uint, n int) string {
	s := strings.Repeat("0", 64) + strconv.FormatUint(uint64(u), 2)
	return s[len(s)-n:]
}

// code is a number's code, as the words say it; "" if there is none.
func code(u uint, k int) string {
	if k < 0 || k > 30 || u >= 1<<40 {
		return ""
	}
	if quotient := u / (1 << k); quotient < 24 {
		return strings.Repeat("1", int(quotient)) + "0" + digits(u, k)
	}
	return strings.Repeat("1", 24) + digits(u, 40)
}

func codes(l []uint, k int) string {
	s := ""
	for _, u := range l {
		s += code(u, k)
	}
	return s
}

// packed is a text of bits as bytes, with bits 0 behind.
func packed(s string) []byte {
	s += strings.Repeat("0", (8-len(s)%8)%8)
	b := make([]byte, 0, len(s)/8)
	for ; s != ""; s = s[8:] {
		v, _ := strconv.ParseUint(s[:8], 2, 8)
		b = append(b, byte(v))
	}
	return b
}

// reader is a reader that has the bits of the text, and no other ones: it stands behind bits 1 that fill up the first byte.
func reader(s string) *bitio.Reader {
	ahead := (8 - len(s)%8) % 8
	r := bitio.Read(packed(strings.Repeat("1", ahead) + s))
	r.Get(ahead)
	return r
}

// has fails, if the writer has other bits than those of the text.
func has(t *testing.T, w *bitio.Writer, s string) {
	t.Helper()
	if w.Len() != len(s) || !bytes.Equal(w.Bytes(), packed(s)) {
		t.Fatalf("%d bits %x, not %d bits %x", w.Len(), w.Bytes(), len(s), packed(s))
	}
}

func is(t *testing.T, got, want api.Errno) {
	t.Helper()
	if got != want {
		t.Fatalf("error %d, not %d", got, want)
	}
}

// parameters are all of them.
func parameters() []int {
	var l []int
	for k := range 31 {
		l = append(l, k)
	}
	return l
}

// noParameters are some that are none.
func noParameters() []int {
	return []int{math.MinInt, -1 << 32, -64, -1, 31, 32, 40, 63, 64, 1 << 32, math.MaxInt}
}

// edges are the numbers next to those of which the code changes its shape with k.
func edges(k int) []uint {
	l := []uint{0, 1, 2, 1<<40 - 2, 1<<40 - 1, 1 << 39}
	for _, quotient := range []uint{1, 2, 22, 23, 24, 25} {
		l = append(l, quotient<<k-1, quotient<<k, quotient<<k+1)
	}
	return l
}

// beyond are numbers that are not coded.
func beyond() []uint {
	return []uint{1 << 40, 1<<40 + 1, 1 << 41, 1 << 62, 1 << 63, math.MaxUint}
}

// P6.1, and the chapter's example.
func TestCost(t *testing.T) {
	for _, c := range []struct {
		u       uint
		k, cost int
	}{{24, 0, 64}, {23, 0, 24}, {0, 0, 1}, {11, 2, 5}, {0, 30, 31}, {24<<30 - 1, 30, 54}, {24 << 30, 30, 64}, {1<<40 - 1, 30, 64}, {1<<40 - 1, 0, 64}, {1 << 40, 30, 0}, {0, 31, 0}, {0, -1, 0}} {
		if cost := rice.Cost(c.u, c.k); cost != c.cost {
			t.Errorf("Cost(%d, %d): %d, not %d", c.u, c.k, cost, c.cost)
		}
	}
	for _, k := range append(parameters(), noParameters()...) {
		for _, u := range append(edges(max(0, min(k, 30))), beyond()...) {
			if cost := rice.Cost(u, k); cost != len(code(u, k)) {
				t.Errorf("Cost(%d, %d): %d, not %d", u, k, cost, len(code(u, k)))
			}
		}
	}
}

// P6.1
func TestTotal(t *testing.T) {
	x := noise(1)
	for _, k := range append(parameters(), noParameters()...) {
		for _, l := range [][]uint{nil, {}, {0}, edges(max(0, min(k, 30))), beyond(), append(beyond(), 5, 6, 7), x.numbers(100)} {
			kept := slices.Clone(l)
			if total, want := rice.Total(l, k), len(codes(l, k)); total != want {
				t.Errorf("Total(%v, %d): %d, not %d", l, k, total, want)
			}
			if !slices.Equal(l, kept) {
				t.Error("changed")
			}
		}
	}
}

// P6.2, P6.5, and the chapter's example.
func TestPut(t *testing.T) {
	w := &bitio.Writer{}
	is(t, rice.Put(w, 11, 2), api.OK)
	has(t, w, "11011")
	is(t, rice.Put(w, 24, 0), api.OK)
	has(t, w, "11011"+strings.Repeat("1", 24)+digits(24, 40))
	for _, k := range parameters() {
		w, s := &bitio.Writer{}, ""
		for _, u := range edges(k) {
			is(t, rice.Put(w, u, k), api.OK)
			s += code(u, k)
			has(t, w, s)
		}
	}
}

// P6.2: what is refused, in which order, and that nothing is written then.
func TestPutRefuses(t *testing.T) {
	w := &bitio.Writer{}
	w.Put(5, 3)
	for _, k := range noParameters() {
		for _, u := range append(beyond(), 0, 1<<40-1) {
			is(t, rice.Put(nil, u, k), api.ErrNil)
			is(t, rice.Put(w, u, k), api.ErrArg)
			is(t, rice.PutAll(nil, []uint{u}, k), api.ErrNil)
			is(t, rice.PutAll(w, []uint{1, u}, k), api.ErrArg)
		}
		is(t, rice.PutAll(nil, nil, k), api.ErrNil)
		is(t, rice.PutAll(w, nil, k), api.ErrArg)
	}
	for _, k := range parameters() {
		for _, u := range beyond() {
			is(t, rice.Put(nil, u, k), api.ErrNil)
			is(t, rice.Put(w, u, k), api.ErrRange)
			for _, l := range [][]uint{{u}, {u, 1, 2}, {1, u, 2}, {1, 2, u}, {u, u}} {
				is(t, rice.PutAll(nil, l, k), api.ErrNil)
				is(t, rice.PutAll(w, l, k), api.ErrRange)
			}
		}
		is(t, rice.Put(nil, 1, k), api.ErrNil)
		is(t, rice.PutAll(nil, []uint{1}, k), api.ErrNil)
		is(t, rice.PutAll(nil, nil, k), api.ErrNil)
	}
	has(t, w, "101")
}

// P6.2
func TestPutAll(t *testing.T) {
	x := noise(2)
	for _, k := range parameters() {
		for _, l := range [][]uint{nil, {}, {0}, edges(k), x.numbers(50)} {
			w, kept := &bitio.Writer{}, slices.Clone(l)
			w.Put(1, 2)
			is(t, rice.PutAll(w, l, k), api.OK)
			has(t, w, "01"+codes(l, k))
			if !slices.Equal(l, kept) {
				t.Error("changed")
			}
		}
	}
}

// P6.3, P6.5: what is put is got, and nothing behind it is read.
func TestGet(t *testing.T) {
	for _, k := range parameters() {
		for _, u := range edges(k) {
			s := code(u, k)
			for _, behind := range []string{"", "0", "1", "10110"} {
				r := reader(s + behind)
				got, e := rice.Get(r, k)
				if e != api.OK || got != u || r.Left() != len(behind) {
					t.Fatalf("Get of %d with %d: %d, error %d, %d bits left", u, k, got, e, r.Left())
				}
			}
		}
	}
}

// P6.3: bits that are missing, wherever the code is cut off.
func TestGetEnds(t *testing.T) {
	for _, k := range parameters() {
		for _, u := range edges(k) {
			s := code(u, k)
			for n := range len(s) {
				if got, e := rice.Get(reader(s[:n]), k); got != 0 || e != api.ErrEnd {
					t.Fatalf("%d of %d bits, with %d: %d, error %d", n, len(s), k, got, e)
				}
				if l, e := rice.GetAll(reader(code(3, k)+s[:n]), 2, k); len(l) != 0 || e != api.ErrEnd {
					t.Fatalf("one, and %d of %d bits, with %d: %d, error %d", n, len(s), k, l, e)
				}
			}
		}
		got, e := rice.Get(&bitio.Reader{}, k)
		if got != 0 || e != api.ErrEnd {
			t.Error("a reader of nothing", got, e)
		}
	}
}

// P6.3: a number in 40 bits whose quotient is below 24 is told behind its last bit.
func TestGetWholeTooSmall(t *testing.T) {
	for _, k := range parameters() {
		for _, u := range []uint{0, 1, 1 << k, 24<<k - 1, 23 << k} {
			s := strings.Repeat("1", 24) + digits(u, 40)
			for _, behind := range []string{"", "0", "111"} {
				if got, e := rice.Get(reader(s+behind), k); got != 0 || e != api.ErrCode {
					t.Fatalf("%d with %d: %d, error %d", u, k, got, e)
				}
				if l, e := rice.GetAll(reader(s+behind), 1000, k); len(l) != 0 || e != api.ErrCode {
					t.Fatalf("%d with %d, and more: %d, error %d", u, k, l, e)
				}
				if l, e := rice.GetAll(reader(code(3, k)+s+behind), 1000, k); len(l) != 0 || e != api.ErrCode {
					t.Fatalf("%d with %d, behind one: %d, error %d", u, k, l, e)
				}
			}
			for n := range len(s) {
				if got, e := rice.Get(reader(s[:n]), k); got != 0 || e != api.ErrEnd {
					t.Fatalf("%d of %d bits, with %d: %d, error %d", n, len(s), k, got, e)
				}
			}
		}
		least := uint(24) << k
		if got, e := rice.Get(reader(strings.Repeat("1", 24)+digits(least, 40)), k); got != least || e != api.OK {
			t.Error("the quotient 24", got, e)
		}
	}
}

// P6.3: what is refused ahead of reading, and in which order; nothing is read then.
func TestGetRefuses(t *testing.T) {
	const longest = 1 << 20
	r := bitio.Read([]byte{0, 0, 0, 0})
	for _, k := range noParameters() {
		_, e := rice.Get(nil, k)
		is(t, e, api.ErrNil)
		got, e := rice.Get(r, k)
		if is(t, e, api.ErrArg); got != 0 {
			t.Error(got)
		}
		for _, n := range []int{-1, 0, 1, longest, longest + 1} {
			_, e := rice.GetAll(nil, n, k)
			is(t, e, api.ErrNil)
			l, e := rice.GetAll(r, n, k)
			if is(t, e, api.ErrArg); len(l) != 0 {
				t.Error(l)
			}
			_, e = rice.GetAll(bitio.Read(nil), n, k)
			is(t, e, api.ErrArg)
		}
	}
	for _, k := range parameters() {
		_, e := rice.Get(nil, k)
		is(t, e, api.ErrNil)
		for _, n := range []int{math.MinInt, -1, longest + 1, 1 << 32, math.MaxInt} {
			_, e := rice.GetAll(nil, n, k)
			is(t, e, api.ErrNil)
			l, e := rice.GetAll(r, n, k)
			if is(t, e, api.ErrArg); len(l) != 0 {
				t.Error(l)
			}
		}
		_, e = rice.GetAll(nil, 0, k)
		is(t, e, api.ErrNil)
	}
	if r.At() != 0 {
		t.Error("read")
	}
}

// P6.3: none, and as many as may be, and that one is missing.
func TestGetAllEdges(t *testing.T) {
	const longest = 1 << 20
	for _, r := range []*bitio.Reader{bitio.Read(nil), bitio.Read([]byte{255})} {
		l, e := rice.GetAll(r, 0, 30)
		if e != api.OK || len(l) != 0 || r.At() != 0 {
			t.Error("none", l, e)
		}
	}
	r := bitio.Read(make([]byte, longest/8))
	l, e := rice.GetAll(r, longest, 0)
	if e != api.OK || len(l) != longest || slices.Max(l) != 0 || r.Left() != 0 {
		t.Error("as many as may be", len(l), e)
	}
	l, e = rice.GetAll(bitio.Read(make([]byte, longest/8-1)), longest, 0)
	if e != api.ErrEnd || len(l) != 0 {
		t.Error("some are missing", len(l), e)
	}
}

// P6.3, P6.5: what is put is got, in as many bits as it costs.
func TestPutAllGetAll(t *testing.T) {
	x := noise(3)
	for _, k := range parameters() {
		for _, n := range []int{1, 2, 30, 500} {
			l, w := x.numbers(n), &bitio.Writer{}
			is(t, rice.PutAll(w, l, k), api.OK)
			if total := rice.Total(l, k); w.Len() != total {
				t.Errorf("%d bits, not %d", w.Len(), total)
			}
			w.Put(5, 3)
			r := bitio.Read(w.Bytes())
			got, e := rice.GetAll(r, n, k)
			if is(t, e, api.OK); !slices.Equal(got, l) {
				t.Fatal(k, n, got, l)
			}
			if behind, _ := r.Get(3); behind != 5 {
				t.Error("bits behind were read")
			}
		}
	}
}

// P6.6: what is got is put as the bits that it was, whatever bits these are.
func TestGetPut(t *testing.T) {
	const wide = 16
	try := func(k int, b []byte) {
		r := bitio.Read(b)
		l, last := []uint{}, 0
		for {
			u, e := rice.Get(r, k)
			if e != api.OK {
				break
			}
			l, last = append(l, u), r.At()
		}
		w := &bitio.Writer{}
		is(t, rice.PutAll(w, l, k), api.OK)
		if w.Len() != last || last != rice.Total(l, k) {
			t.Fatalf("%x with %d: %d bits, not %d", b, k, w.Len(), last)
		}
		again := bitio.Read(w.Bytes())
		was := bitio.Read(b)
		for range last {
			x, _ := again.Get(1)
			y, _ := was.Get(1)
			if x != y {
				t.Fatalf("%x with %d: other bits", b, k)
			}
		}
	}
	for _, k := range []int{0, 1, 2, 5} {
		for v := range 1 << wide {
			try(k, []byte{byte(v >> 8), byte(v)})
		}
	}
	x := noise(4)
	for i := range 3000 {
		b := make([]byte, 40)
		for j := range b {
			b[j] = byte(x.next() | x.next()<<(i%9))
			if j < i%8 {
				b[j] = 255
			}
		}
		try(i%31, b)
	}
}

// lengths are how many bits all codes have, with each parameter.
func lengths(l []uint) []int {
	var n []int
	for _, k := range parameters() {
		n = append(n, len(codes(l, k)))
	}
	return n
}

// P6.4
func TestBest(t *testing.T) {
	x := noise(5)
	lists := [][]uint{nil, {}, {0}, {1}, {2}, {3}, {0, 0}, {1, 1}, {23}, {24}, {1 << 39}, {1<<40 - 1}, {1 << 40}, beyond(), append(beyond(), 100, 200)}
	for i := range 40 {
		lists = append(lists, x.numbers(i), edges(i%31))
		same := make([]uint, i)
		for j := range same {
			same[j] = x.next() % (1 << i)
		}
		lists = append(lists, same)
	}
	for _, l := range lists {
		kept, all := slices.Clone(l), lengths(l)
		for _, most := range append(parameters(), noParameters()...) {
			may := all[:max(0, min(most, 30))+1]
			k, total := rice.Best(l, most)
			if least := slices.Min(may); k != slices.Index(may, least) || total != least {
				t.Errorf("Best(%v, %d): %d, %d, of %v", l, most, k, total, may)
			}
		}
		if !slices.Equal(l, kept) {
			t.Error("changed")
		}
	}
}

// P6.4: costs that are alike, ends of most, numbers that a middle parameter would cost more.
func TestBestKnown(t *testing.T) {
	for _, c := range []struct {
		l              []uint
		most, k, total int
	}{
		{nil, 30, 0, 0},
		{[]uint{0, 0, 0}, 30, 0, 3},
		{[]uint{1}, 30, 0, 2},                     // 10, or 01
		{[]uint{2}, 30, 0, 3},                     // 110, 100, or 010
		{[]uint{3, 3}, 30, 1, 6},                  // 101, or 011: the less one
		{[]uint{100}, 30, 6, 8},                   // 10100100
		{[]uint{100}, 4, 4, 11},                   // no more than most
		{[]uint{100}, 0, 0, 64},                   // 0 alone
		{[]uint{100}, -1, 0, 64},                  // as 0
		{[]uint{100}, math.MinInt, 0, 64},         // as 0
		{[]uint{1<<40 - 1}, 30, 0, 64},            // always whole
		{[]uint{20 << 30}, 30, 30, 51},            // the last one
		{[]uint{20 << 30}, 31, 30, 51},            // as 30
		{[]uint{20 << 30}, math.MaxInt, 30, 51},   // as 30
		{[]uint{20 << 30}, 29, 0, 64},             // whole with each that may be
		{[]uint{1 << 40, math.MaxUint}, 30, 0, 0}, // none has a code
	} {
		if k, total := rice.Best(c.l, c.most); k != c.k || total != c.total {
			t.Errorf("Best(%v, %d): %d, %d, not %d, %d", c.l, c.most, k, total, c.k, c.total)
		}
	}
}

// guess is what Guess should be, by numbers without an end.
func guess(l []uint) int {
	if len(l) == 0 {
		return 0
	}
	sum, most := new(big.Int), new(big.Int).Lsh(big.NewInt(1), 62)
	for _, u := range l {
		sum.Add(sum, new(big.Int).SetUint64(uint64(u)))
	}
	if sum.Cmp(most) > 0 {
		sum = most
	}
	return min(sum.Div(sum, big.NewInt(int64(len(l)))).BitLen(), 30)
}

// P6.4
func TestGuess(t *testing.T) {
	x := noise(6)
	lists := [][]uint{nil, {}, {0}, {1}, {0, 1}, {1, 1}, {1, 2}, {2, 2}, {3, 3, 2}, {1<<30 - 1}, {1 << 30}, {1 << 31}, {1<<29 - 1}, {1 << 29}, beyond()}
	for _, u := range []uint{1<<62 - 1, 1 << 62, 1<<62 + 1, 1<<63 - 1, 1 << 63, math.MaxUint} {
		for n := range 6 {
			lists = append(lists, slices.Repeat([]uint{u}, n+1), append(make([]uint, 1<<(2*n)), u), append([]uint{u, u, u, u}, make([]uint, 1<<n)...))
		}
	}
	for i := range 200 {
		lists = append(lists, x.numbers(i))
	}
	for _, l := range lists {
		kept := slices.Clone(l)
		if got, want := rice.Guess(l), guess(l); got != want {
			t.Errorf("Guess(%v): %d, not %d", l[:min(len(l), 20)], got, want)
		}
		if !slices.Equal(l, kept) {
			t.Error("changed")
		}
	}
}

// P6.4: sums that go round, where nothing stops them.
func TestGuessOfGreatSums(t *testing.T) {
	for _, l := range [][]uint{slices.Repeat([]uint{1 << 40}, 1<<24), {1 << 63, 1 << 63}, {math.MaxUint, 1}, {1, math.MaxUint}, {math.MaxUint, math.MaxUint, 2}} {
		if got := rice.Guess(l); got != 30 {
			t.Error(len(l), got)
		}
	}
}
