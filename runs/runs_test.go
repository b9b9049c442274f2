package runs_test

import (
	"bytes"
	"math"
	"math/bits"
	"slices"
	"strconv"
	"strings"
	"testing"

	"descant/api"
	"descant/bitio"
	"descant/runs"
)

const (
	longest   = 1 << 20   // numbers that are put, or got, in one call
	mostGamma = 1<<32 - 1 // the greatest number that has a gamma code
	lowest    = -1 << 39  // the number whose Zig is one below 2^40
	highest   = 1<<39 - 1 // the greatest number of a list that is coded
)

// noise is numbers that look like chance, and are the same ones at each run.
type noise uint64

func (x *noise) next(n int) int {
	*x = *x*6364136223846793005 + 1442695040888963407
	return int(*x >> 33 % noise(n))
}

// number is a number of a list that is coded, of any width, on either side of 0.
func (x *noise) number() int {
	v := (x.next(1<<31)<<31 | x.next(1<<31)) & highest >> x.next(40)
	if x.next(2) == 0 {
		return -v - 1
	}
	return v
}

// list is n numbers, of which so many in a hundred are noughts.
func (x *noise) list(n, noughts int) []int {
	l := make([]int, n)
	for i := range l {
		if x.next(100) >= noughts {
			l[i] = x.number()
		}
	}
	return l
}

// digits are the lowest n bits of u, as a text.
func digits(u uint, n int) string {
	s := strings.Repeat("0", 64) + strconv.FormatUint(uint64(u), 2)
	return s[len(s)-n:]
}

// gamma is a number's gamma code, as the words say it; "" if there is none.
func gamma(v uint) string {
	if v < 1 || v > mostGamma {
		return ""
	}
	s := strconv.FormatUint(uint64(v), 2)
	return strings.Repeat("0", len(s)-1) + s
}

// rest is the rice code of a number below 2^40.
func rest(u uint, k int) string {
	if quotient := u / (1 << k); quotient < 24 {
		return strings.Repeat("1", int(quotient)) + "0" + digits(u, k)
	}
	return strings.Repeat("1", 24) + digits(u, 40)
}

// less is the Zig of a number that is not 0, less 1.
func less(x int) uint {
	if x < 0 {
		return uint(-2*x - 2)
	}
	return uint(2*x - 1)
}

// code is the code of a list that is coded, as the words say it.
func code(l []int, k int) string {
	var s strings.Builder
	noughts := uint(0)
	for _, x := range l {
		if x == 0 {
			noughts++
			continue
		}
		s.WriteString(gamma(noughts+1) + rest(less(x), k))
		noughts = 0
	}
	if noughts > 0 {
		s.WriteString(gamma(noughts + 1))
	}
	return s.String()
}

// packed is a text of bits as bytes, with bits 0 behind.
func packed(s string) []byte {
	s += strings.Repeat("0", (8-len(s)%8)%8)
	b := make([]byte, 0, len(s)/8)
	for ; s != ""; s = s[8:] {
		v, _ := strconv.ParseUint(s[:8], 2, 8)
		b = append(b, byte(v))
	}
	return b
}

// reader is a reader that has the bits of the text, and no other ones: it stands behind bits 1 that fill up the first byte.
func reader(s string) *bitio.Reader {
	ahead := (8 - len(s)%8) % 8
	r := bitio.Read(packed(strings.Repeat("1", ahead) + s))
	r.Get(ahead)
	return r
}

// has fails, if the writer has other bits than those of the text.
func has(t *testing.T, w *bitio.Writer, s string) {
	t.Helper()
	if w.Len() != len(s) || !bytes.Equal(w.Bytes(), packed(s)) {
		t.Fatalf("%d bits %x, not %d bits %x", w.Len(), w.Bytes(), len(s), packed(s))
	}
}

func is(t *testing.T, got, want api.Errno) {
	t.Helper()
	if got != want {
		t.Fatalf("error %d, not %d", got, want)
	}
}

// gets fails, if another list is got of these bits; and if one is got, but not just these bits are read.
func gets(t *testing.T, s string, n, k int, want []int, wanted api.Errno) {
	t.Helper()
	r := reader(s + "1011")
	l, e := runs.Get(r, n, k)
	if e != wanted || !slices.Equal(l, want) || e == api.OK && r.Left() != 4 {
		t.Fatalf("%d of %s with %d: %v, error %d, not %v, error %d; %d bits left", n, s, k, l, e, want, wanted, r.Left())
	}
}

// fails fails, if a list is got of these bits alone, or another error comes.
func fails(t *testing.T, s string, n, k int, wanted api.Errno) {
	t.Helper()
	if l, e := runs.Get(reader(s), n, k); e != wanted || len(l) > 0 {
		t.Fatalf("%d of %s with %d: %v, error %d, not %d", n, s, k, l, e, wanted)
	}
}

// parameters are all of them.
func parameters() []int {
	var l []int
	for k := range 31 {
		l = append(l, k)
	}
	return l
}

// noParameters are some that are none.
func noParameters() []int {
	return []int{math.MinInt, -1 << 32, -64, -1, 31, 32, 40, 63, 64, 1 << 32, math.MaxInt}
}

// beyond are numbers that no list has that is coded.
func beyond() []int {
	return []int{highest + 1, highest + 2, lowest - 1, lowest - 2, 1 << 40, -1 << 40, 1 << 62, -1 << 62, math.MaxInt, math.MinInt}
}

// notCoded are lists with such numbers, at each end and between.
func notCoded() [][]int {
	var lists [][]int
	for _, x := range beyond() {
		lists = append(lists, []int{x}, []int{x, 0, 1}, []int{0, x}, []int{1, 0, x, 0, 1}, []int{0, 0, lowest, 3, x}, []int{x, x})
	}
	return lists
}

// coded are lists that are coded: of nothing, of noughts, with noughts at either end, with numbers at either end, with the ends of what is coded.
func coded() [][]int {
	lists := [][]int{nil, {}, {0}, {0, 0}, make([]int, 7), make([]int, 300), {1}, {-1}, {5}, {0, 0, 5}, {5, 0, 0}, {0, 5, 0}, {5, 0, 5}, {5, 5}, {0, -3, 2, 0, 0, 0, 9}, {lowest}, {highest}, {0, lowest, 0, highest, 0}, {lowest + 1, highest - 1}, {12, -12, 13, -13}}
	x := noise(1)
	for i := range 60 {
		lists = append(lists, x.list(i, 0), x.list(i, 50), x.list(i, 95))
		small := make([]int, i)
		for j := range small {
			small[j] = x.next(7)/3 - 1
		}
		lists = append(lists, small)
	}
	for k := range 31 {
		lists = append(lists, []int{12 << k, 12<<k - 1, -12 << k, 0, -12<<k + 1, 12<<k + 1, 1 << k, -1 << k})
	}
	return lists
}

// P7.1
func TestGammaCost(t *testing.T) {
	for _, c := range []struct {
		v    uint
		cost int
	}{{0, 0}, {1, 1}, {2, 3}, {3, 3}, {4, 5}, {7, 5}, {8, 7}, {1<<31 - 1, 61}, {1 << 31, 63}, {mostGamma, 63}, {mostGamma + 1, 0}, {mostGamma + 2, 0}, {1 << 40, 0}, {1 << 63, 0}, {math.MaxUint, 0}} {
		if cost := runs.GammaCost(c.v); cost != c.cost {
			t.Errorf("GammaCost(%d): %d, not %d", c.v, cost, c.cost)
		}
	}
}

// gammas are numbers that have a gamma code: all small ones, and the ends of each width.
func gammas() []uint {
	var l []uint
	for v := range uint(300) {
		l = append(l, v+1)
	}
	for n := range 32 {
		l = append(l, 1<<n, 1<<n|1, 2<<n-1, 3<<n>>1)
	}
	return l
}

// P7.1, P7.5
func TestGamma(t *testing.T) {
	all, s := &bitio.Writer{}, ""
	for _, v := range gammas() {
		w := &bitio.Writer{}
		is(t, runs.PutGamma(w, v), api.OK)
		has(t, w, gamma(v))
		if cost := runs.GammaCost(v); cost != w.Len() {
			t.Errorf("%d: %d bits, not %d", v, w.Len(), cost)
		}
		for _, behind := range []string{"", "0", "1", "10110"} {
			r := reader(gamma(v) + behind)
			if got, e := runs.GetGamma(r); got != v || e != api.OK || r.Left() != len(behind) {
				t.Fatalf("GetGamma of %d: %d, error %d, %d bits left", v, got, e, r.Left())
			}
		}
		is(t, runs.PutGamma(all, v), api.OK)
		s += gamma(v)
	}
	has(t, all, s)
}

// P7.1: what has no code is refused, and nothing is written.
func TestPutGammaRefuses(t *testing.T) {
	w := &bitio.Writer{}
	w.Put(5, 3)
	for _, v := range []uint{0, mostGamma + 1, mostGamma + 2, 1 << 40, 1 << 63, math.MaxUint} {
		is(t, runs.PutGamma(nil, v), api.ErrNil)
		is(t, runs.PutGamma(w, v), api.ErrRange)
	}
	is(t, runs.PutGamma(nil, 1), api.ErrNil)
	has(t, w, "101")
}

// P7.1: bits that are missing, ahead of the first bit 1, and behind it; and too many bits 0, of which is told as soon as they are there.
func TestGetGammaRefuses(t *testing.T) {
	refuses := func(s string, wanted api.Errno) {
		t.Helper()
		if v, e := runs.GetGamma(reader(s)); v != 0 || e != wanted {
			t.Fatalf("%s: %d, error %d, not %d", s, v, e, wanted)
		}
	}
	for _, v := range gammas() {
		for n := range len(gamma(v)) {
			refuses(gamma(v)[:n], api.ErrEnd)
		}
	}
	for n := range 32 {
		refuses(strings.Repeat("0", n), api.ErrEnd)
	}
	for _, behind := range []string{"", "0", "1", strings.Repeat("1", 31), strings.Repeat("1", 32), strings.Repeat("1", 33), strings.Repeat("0", 40)} {
		refuses(strings.Repeat("0", 32)+behind, api.ErrCode)
		refuses(strings.Repeat("0", 33)+behind, api.ErrCode)
	}
	if v, e := runs.GetGamma(nil); v != 0 || e != api.ErrNil {
		t.Error("nil", v, e)
	}
	if v, e := runs.GetGamma(&bitio.Reader{}); v != 0 || e != api.ErrEnd {
		t.Error("a reader of nothing", v, e)
	}
}

// P7.2, P7.3, and the chapter's example.
func TestExample(t *testing.T) {
	l, s := []int{0, 0, 5}, "011"+"1111111110"
	w := &bitio.Writer{}
	is(t, runs.Put(w, l, 0), api.OK)
	has(t, w, s)
	if cost := runs.Cost(l, 0); cost != 13 {
		t.Error(cost)
	}
	gets(t, s, 3, 0, l, api.OK)
}

// P7.2, P7.3, P7.5: what is put is the code, costs as many bits as it has, and is got.
func TestCodes(t *testing.T) {
	for _, l := range coded() {
		kept := slices.Clone(l)
		for _, k := range parameters() {
			s := code(l, k)
			if cost := runs.Cost(l, k); cost != len(s) {
				t.Fatalf("Cost(%v, %d): %d, not %d", l, k, cost, len(s))
			}
			w := &bitio.Writer{}
			w.Put(1, 2)
			is(t, runs.Put(w, l, k), api.OK)
			has(t, w, "01"+s)
			gets(t, s, len(l), k, l, api.OK)
		}
		if !slices.Equal(l, kept) {
			t.Error("changed")
		}
	}
}

// P7.2: what costs nothing, as it has no code.
func TestCostOfNone(t *testing.T) {
	for _, k := range parameters() {
		for _, l := range notCoded() {
			if cost := runs.Cost(l, k); cost != 0 {
				t.Errorf("Cost(%v, %d): %d", l, k, cost)
			}
		}
	}
	for _, k := range noParameters() {
		for _, l := range append(coded(), notCoded()...) {
			if cost := runs.Cost(l, k); cost != 0 {
				t.Errorf("Cost(%v, %d): %d", l, k, cost)
			}
		}
	}
}

// P7.2
func TestBest(t *testing.T) {
	for _, l := range coded() {
		kept := slices.Clone(l)
		var costs []int
		for _, k := range parameters() {
			costs = append(costs, len(code(l, k)))
		}
		least := slices.Min(costs)
		if k, cost := runs.Best(l); k != slices.Index(costs, least) || cost != least {
			t.Errorf("Best(%v): %d, %d, of %v", l, k, cost, costs)
		}
		if !slices.Equal(l, kept) {
			t.Error("changed")
		}
	}
	for _, l := range notCoded() {
		if k, cost := runs.Best(l); k != 0 || cost != 0 {
			t.Errorf("Best(%v): %d, %d", l, k, cost)
		}
	}
}

// P7.2: costs that are alike for several parameters, and the ends of these.
func TestBestKnown(t *testing.T) {
	for _, c := range []struct {
		l       []int
		k, cost int
	}{
		{nil, 0, 0},
		{[]int{0}, 0, 3},           // 010
		{[]int{0, 0, 0}, 0, 5},     // 00100, whatever the parameter
		{[]int{1}, 0, 3},           // 1, and 10, or 01
		{[]int{-1}, 0, 2},          // 1, and 0
		{[]int{-2}, 0, 4},          // 1, and 110, 100, or 010
		{[]int{2, 2}, 1, 8},        // each 1, and 101, or 011: the less one
		{[]int{0, 2}, 1, 6},        // 010, and 101, or 011
		{[]int{highest}, 0, 65},    // 64 bits with each parameter
		{[]int{lowest}, 0, 65},     // 64 bits with each parameter
		{[]int{10 << 30}, 30, 51},  // the last one: Zig less 1 is below 20 times 2^30
		{[]int{-10 << 30}, 30, 51}, // likewise
	} {
		if k, cost := runs.Best(c.l); k != c.k || cost != c.cost {
			t.Errorf("Best(%v): %d, %d, not %d, %d", c.l, k, cost, c.k, c.cost)
		}
	}
}

// P7.3: what is refused, in which order, and that nothing is written then.
func TestPutRefuses(t *testing.T) {
	w := &bitio.Writer{}
	w.Put(5, 3)
	long := make([]int, longest+1)
	worst := slices.Clone(long)
	worst[longest] = highest + 1
	lists := append(notCoded(), nil, []int{0}, []int{0, 4}, long, worst)
	for _, k := range append(parameters(), noParameters()...) {
		for _, l := range lists {
			is(t, runs.Put(nil, l, k), api.ErrNil)
		}
	}
	for _, k := range noParameters() {
		for _, l := range lists {
			is(t, runs.Put(w, l, k), api.ErrArg)
		}
	}
	for _, k := range parameters() {
		is(t, runs.Put(w, long, k), api.ErrLong)
		is(t, runs.Put(w, worst, k), api.ErrLong)
		for _, l := range notCoded() {
			is(t, runs.Put(w, l, k), api.ErrRange)
		}
	}
	is(t, runs.Put(w, worst[1:], 3), api.ErrRange)
	has(t, w, "101")
}

// P7.2, P7.3, P7.5: as many numbers as may be, and one more.
func TestLongest(t *testing.T) {
	noughts := make([]int, longest)
	last := slices.Clone(noughts)
	last[longest-1] = -7
	x := noise(2)
	for _, l := range [][]int{noughts, last, x.list(longest, 90)} {
		w, s := &bitio.Writer{}, code(l, 4)
		is(t, runs.Put(w, l, 4), api.OK)
		has(t, w, s)
		got, e := runs.Get(reader(s), longest, 4)
		if e != api.OK || !slices.Equal(got, l) {
			t.Error("not what was put", len(got), e)
		}
		fails(t, s[:len(s)-1], longest, 4, api.ErrEnd)
		more := append(slices.Clone(l), 3)
		if cost := runs.Cost(more, 4); cost != len(code(more, 4)) {
			t.Errorf("one more: %d, not %d", cost, len(code(more, 4)))
		}
		is(t, runs.Put(&bitio.Writer{}, more, 4), api.ErrLong)
		fails(t, code(more, 4), longest+1, 4, api.ErrArg)
	}
}

// P7.3: what is refused ahead of reading, and in which order.
func TestGetRefuses(t *testing.T) {
	counts := []int{math.MinInt, -1 << 32, -1, longest + 1, 1 << 32, math.MaxInt}
	for _, k := range append(parameters(), noParameters()...) {
		for _, n := range append(counts, 0, 1, longest) {
			l, e := runs.Get(nil, n, k)
			if is(t, e, api.ErrNil); len(l) > 0 {
				t.Error(l)
			}
		}
		for _, n := range counts {
			fails(t, "1111", n, k, api.ErrArg)
			fails(t, "", n, k, api.ErrArg)
		}
	}
	for _, k := range noParameters() {
		for _, n := range []int{0, 1, 2, longest} {
			fails(t, "01111", n, k, api.ErrArg)
			fails(t, "", n, k, api.ErrArg)
		}
	}
	for _, k := range parameters() {
		gets(t, "", 0, k, nil, api.OK)
		fails(t, "", 1, k, api.ErrEnd)
		fails(t, "", longest, k, api.ErrEnd)
		if l, e := runs.Get(&bitio.Reader{}, 1, k); e != api.ErrEnd || len(l) > 0 {
			t.Error("a reader of nothing", l, e)
		}
	}
}

// P7.3: bits that are missing, wherever the code is cut off.
func TestGetEnds(t *testing.T) {
	for _, l := range coded() {
		for _, k := range []int{0, 1, 7, 30} {
			s := code(l, k)
			for n := range min(len(s), 400) {
				fails(t, s[:n], len(l), k, api.ErrEnd)
			}
		}
	}
}

// P7.3: more noughts than numbers are left; that is told behind the gamma code, whatever comes next.
func TestGetTooManyNoughts(t *testing.T) {
	for _, k := range parameters() {
		ahead := code([]int{0, 9, 4}, k)
		for _, n := range []int{1, 2, 3, 4, 1000} {
			for _, v := range []uint{uint(n) + 2, uint(n) + 3, 2*uint(n) + 2, mostGamma} {
				for _, behind := range []string{"", "1", "0", rest(6, k)} {
					fails(t, gamma(v)+behind, n, k, api.ErrCode)
					fails(t, ahead+gamma(v)+behind, 3+n, k, api.ErrCode)
				}
				s := gamma(v)
				fails(t, s[:len(s)-1], n, k, api.ErrEnd)
			}
			gets(t, gamma(uint(n)+1), n, k, make([]int, n), api.OK)
			gets(t, ahead+gamma(uint(n)+1), 3+n, k, append([]int{0, 9, 4}, make([]int, n)...), api.OK)
		}
		fails(t, gamma(longest+2), longest, k, api.ErrCode)
		fails(t, strings.Repeat("0", 32), 5, k, api.ErrCode)
		fails(t, ahead+strings.Repeat("0", 32), 5, k, api.ErrCode)
		fails(t, ahead+strings.Repeat("0", 31), 5, k, api.ErrEnd)
	}
}

// P7.3: the number 2^40 - 1 has a code, but is no Zig less 1; that is told behind its last bit, whatever comes next.
func TestGetZigTooGreat(t *testing.T) {
	for _, k := range parameters() {
		great := rest(1<<40-1, k)
		for _, ahead := range []string{gamma(1), gamma(3), code([]int{0, 9, 4}, k) + gamma(2)} {
			for _, n := range []int{5, 6, 1000} {
				for _, behind := range []string{"", "0", "1", "1011"} {
					fails(t, ahead+great+behind, n, k, api.ErrCode)
				}
				fails(t, ahead+great[:len(great)-1], n, k, api.ErrEnd)
			}
		}
		fails(t, gamma(1)+great, 1, k, api.ErrCode)
		gets(t, gamma(1)+rest(1<<40-2, k), 1, k, []int{lowest}, api.OK)
		gets(t, gamma(1)+rest(1<<40-3, k), 1, k, []int{highest}, api.OK)
		gets(t, gamma(2)+rest(0, k), 2, k, []int{0, -1}, api.OK)
	}
}

// P7.3: a number that is written whole, though its quotient is below 24.
func TestGetWholeTooSmall(t *testing.T) {
	for _, k := range parameters() {
		for _, u := range []uint{0, 1, 1 << k, 24<<k - 1} {
			s := gamma(2) + strings.Repeat("1", 24) + digits(u, 40)
			fails(t, s, 2, k, api.ErrCode)
			fails(t, s, 1000, k, api.ErrCode)
			fails(t, s[:len(s)-1], 1000, k, api.ErrEnd)
		}
		least := uint(24) << k
		gets(t, gamma(1)+strings.Repeat("1", 24)+digits(least+1, 40), 1, k, []int{int(least)/2 + 1}, api.OK)
	}
}

// row is bits as a text, read one by one.
type row struct {
	s  string
	at int
}

// take reads n bits.
func (x *row) take(n int) (uint, api.Errno) {
	if x.at+n > len(x.s) {
		return 0, api.ErrEnd
	}
	v, _ := strconv.ParseUint("0"+x.s[x.at:x.at+n], 2, 64)
	x.at += n
	return uint(v), api.OK
}

// alike reads bits that are like b, up to most, or up to one that is not, which is read, too.
func (x *row) alike(b uint, most int) (int, api.Errno) {
	for n := range most {
		v, e := x.take(1)
		if e != api.OK {
			return 0, e
		}
		if v != b {
			return n, api.OK
		}
	}
	return most, api.OK
}

func (x *row) gamma() (uint, api.Errno) {
	zeros, e := x.alike(0, 32)
	if e != api.OK {
		return 0, e
	}
	if zeros == 32 {
		return 0, api.ErrCode
	}
	v, e := x.take(zeros)
	return v + 1<<zeros, e
}

func (x *row) rest(k int) (uint, api.Errno) {
	ones, e := x.alike(1, 24)
	if e != api.OK {
		return 0, e
	}
	if ones < 24 {
		v, e := x.take(k)
		return v + uint(ones)<<k, e
	}
	v, e := x.take(40)
	if e == api.OK && v < 24<<k {
		return 0, api.ErrCode
	}
	return v, e
}

// list is what should be got.
func (x *row) list(n, k int) ([]int, api.Errno) {
	var l []int
	for len(l) < n {
		v, e := x.gamma()
		if e != api.OK {
			return nil, e
		}
		if int(v)-1 > n-len(l) {
			return nil, api.ErrCode
		}
		l = append(l, make([]int, v-1)...)
		if len(l) == n {
			break
		}
		u, e := x.rest(k)
		if e != api.OK {
			return nil, e
		}
		if u == 1<<40-1 {
			return nil, api.ErrCode
		}
		number := int(u/2) + 1
		if u%2 == 0 {
			number = -number
		}
		l = append(l, number)
	}
	return l, api.OK
}

// P7.3: whatever bits are there.
func TestGetOfAnything(t *testing.T) {
	try := func(s string, n, k int) {
		x, r := row{s: s}, reader(s)
		want, wanted := x.list(n, k)
		l, e := runs.Get(r, n, k)
		if e != wanted || !slices.Equal(l, want) || e == api.OK && r.Left() != len(s)-x.at {
			t.Fatalf("%d of %s with %d: %v, error %d, not %v, error %d", n, s, k, l, e, want, wanted)
		}
	}
	for v := range uint(1 << 12) {
		for _, n := range []int{1, 2, 3, 7, 20} {
			try(digits(v, 12), n, 0)
			try(digits(v, 12), n, 1)
		}
	}
	x := noise(3)
	for i := range 20000 {
		var s strings.Builder
		for range x.next(20) {
			s.WriteString(strings.Repeat(strconv.Itoa(x.next(2)), x.next(40)/(1+i%9)))
		}
		try(s.String(), x.next(40), i%31)
	}
}

// P7.4
func TestRuns(t *testing.T) {
	for _, c := range []struct{ l, noughts []int }{
		{nil, []int{0}},
		{[]int{}, []int{0}},
		{[]int{0}, []int{1}},
		{make([]int, 1000), []int{1000}},
		{[]int{5}, []int{0, 0}},
		{[]int{0, 0, 5}, []int{2, 0}},
		{[]int{5, 0, 0}, []int{0, 2}},
		{[]int{0, 5, 0, 0, -1, 0, 0, 0}, []int{1, 2, 3}},
		{[]int{1, -1, 1}, []int{0, 0, 0, 0}},
		{[]int{math.MaxInt, 0, math.MinInt, 1 << 39, 0, 0}, []int{0, 1, 0, 2}},
	} {
		kept := slices.Clone(c.l)
		if got := runs.Runs(c.l); !slices.Equal(got, c.noughts) {
			t.Errorf("Runs(%v): %v, not %v", c.l, got, c.noughts)
		}
		if !slices.Equal(c.l, kept) {
			t.Error("changed")
		}
	}
}

// P7.4: of the runs, and the numbers between them, the list is made again.
func TestRunsOfAnything(t *testing.T) {
	for _, l := range append(coded(), notCoded()...) {
		var again []int
		noughts := runs.Runs(l)
		others := slices.DeleteFunc(slices.Clone(l), func(x int) bool { return x == 0 })
		if len(noughts) != len(others)+1 {
			t.Fatalf("Runs(%v): %v", l, noughts)
		}
		for i, n := range noughts {
			again = append(again, make([]int, n)...)
			again = append(again, others[i:min(i+1, len(others))]...)
		}
		if !slices.Equal(again, l) {
			t.Fatalf("Runs(%v): %v", l, noughts)
		}
	}
}

// P7.6
func TestNoughtsAlone(t *testing.T) {
	for i := range 200 {
		for _, n := range []int{i, 1<<(i%21) - 1, 1 << (i % 21), 1<<(i%21) + 1} {
			l := make([]int, n)
			if cost := runs.Cost(l, i%31); cost > 2*bits.Len(uint(n))+1 || cost != len(code(l, 0)) {
				t.Fatalf("%d noughts: %d bits", n, cost)
			}
			if k, cost := runs.Best(l); k != 0 || cost > 2*bits.Len(uint(n))+1 {
				t.Fatalf("%d noughts: %d bits with %d", n, cost, k)
			}
		}
	}
}
