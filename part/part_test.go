package part_test

import (
	"bytes"
	"math"
	"slices"
	"strconv"
	"strings"
	"testing"

	"descant/api"
	"descant/bitio"
	"descant/part"
)

const (
	longest = 1 << 16   // numbers of a list that is coded
	lowest  = -1 << 39  // the number whose Zig is one below 2^40
	highest = 1<<39 - 1 // the greatest number of a list that is coded
)

// noise is numbers that look like chance, and are the same ones at each run.
type noise uint64

func (x *noise) next(n int) int {
	*x = *x*6364136223846793005 + 1442695040888963407
	return int(*x >> 33 % noise(n))
}

// number is a number of at most so many bits, up to 40, on either side of 0.
func (x *noise) number(bits int) int {
	v := (x.next(1<<31)<<31 | x.next(1<<31)) & highest >> (40 - bits)
	if x.next(2) == 0 {
		return -v - 1
	}
	return v
}

// list is n numbers of at most so many bits, of which so many in a hundred are noughts.
func (x *noise) list(n, bits, noughts int) []int {
	l := make([]int, n)
	for i := range l {
		if x.next(100) >= noughts {
			l[i] = x.number(bits)
		}
	}
	return l
}

// bits is a text of bits that look like chance, in rows that are alike.
func (x *noise) bits(rows, long int) string {
	var s strings.Builder
	for range rows {
		s.WriteString(strings.Repeat(strconv.Itoa(x.next(2)), x.next(long)))
	}
	return s.String()
}

// digits are the lowest n bits of u, as a text.
func digits(u uint, n int) string {
	s := strings.Repeat("0", 64) + strconv.FormatUint(uint64(u), 2)
	return s[len(s)-n:]
}

// zig is a number's Zig.
func zig(x int) uint {
	if x < 0 {
		return uint(-2*x - 1)
	}
	return uint(2 * x)
}

// width is how many bits a number has.
func width(u uint) int {
	if u == 0 {
		return 0
	}
	return len(strconv.FormatUint(uint64(u), 2))
}

// need is the least width of whose bits all numbers are; 1 of none.
func need(l []int) int {
	n := 1
	for _, x := range l {
		for x < -1<<(n-1) || x > 1<<(n-1)-1 {
			n++
		}
	}
	return n
}

// rest is the rice code of a number below 2^40.
func rest(u uint, k int) string {
	if quotient := u / (1 << k); quotient < 24 {
		return strings.Repeat("1", int(quotient)) + "0" + digits(u, k)
	}
	return strings.Repeat("1", 24) + digits(u, 40)
}

// restBits is how many bits that has.
func restBits(u uint, k int) int {
	if quotient := u / (1 << k); quotient < 24 {
		return int(quotient) + 1 + k
	}
	return 64
}

// gamma is the gamma code of a number.
func gamma(v int) string {
	s := strconv.FormatUint(uint64(v), 2)
	return strings.Repeat("0", len(s)-1) + s
}

// runsOf tells the noughts ahead of each other number, and that number; at the end that is 0, if there are noughts.
func runsOf(l []int, tell func(noughts, x int)) {
	noughts := 0
	for _, x := range l {
		if x == 0 {
			noughts++
			continue
		}
		tell(noughts, x)
		noughts = 0
	}
	if noughts > 0 {
		tell(noughts, 0)
	}
}

// numbers is the code of a list by a way, but for what stands ahead of it.
func numbers(l []int, way part.Way) string {
	var s strings.Builder
	switch way.Kind {
	case 1:
		for _, x := range l {
			s.WriteString(rest(zig(x), way.K))
		}
	case 2:
		runsOf(l, func(noughts, x int) {
			s.WriteString(gamma(noughts + 1))
			if x != 0 {
				s.WriteString(rest(zig(x)-1, way.K))
			}
		})
	case 3:
		for _, x := range l {
			if x < 0 {
				x += 1 << way.K
			}
			s.WriteString(digits(uint(x), way.K))
		}
	}
	return s.String()
}

// mark is what stands ahead of it.
func mark(way part.Way) string {
	switch way.Kind {
	case 0:
		return "011111"
	case 1:
		return digits(uint(way.K), 6)
	case 2:
		return "100000" + digits(uint(way.K), 5)
	}
	return "100001" + digits(uint(way.K), 6)
}

// wayCode is the code of a list by a way, as the words say it.
func wayCode(l []int, way part.Way) string {
	return mark(way) + numbers(l, way)
}

// offer is a way, and how many bits it takes.
type offer struct {
	way  part.Way
	bits int
}

// bestRice is the way of Rice, with the best K up to the Width of the greatest Zig.
func bestRice(l []int) offer {
	greatest := uint(0)
	for _, x := range l {
		greatest = max(greatest, zig(x))
	}
	best := offer{bits: math.MaxInt}
	for k := range min(width(greatest), 30) + 1 {
		bits := 6
		for _, x := range l {
			bits += restBits(zig(x), k)
		}
		if bits < best.bits {
			best = offer{part.Way{Kind: 1, K: k}, bits}
		}
	}
	return best
}

// bestRuns is the way of Runs, with the best K.
func bestRuns(l []int) offer {
	best := offer{bits: math.MaxInt}
	for k := range 31 {
		bits := 11
		runsOf(l, func(noughts, x int) {
			bits += len(gamma(noughts + 1))
			if x != 0 {
				bits += restBits(zig(x)-1, k)
			}
		})
		if bits < best.bits {
			best = offer{part.Way{Kind: 2, K: k}, bits}
		}
	}
	return best
}

// offers are a list's ways, in the order in which they are named.
func offers(l []int) []offer {
	noughts := 0
	for _, x := range l {
		if x == 0 {
			noughts++
		}
	}
	var all []offer
	if noughts == len(l) {
		all = append(all, offer{part.Way{}, 6})
	}
	all = append(all, bestRice(l))
	if noughts >= len(l)-noughts {
		all = append(all, bestRuns(l))
	}
	return append(all, offer{part.Way{Kind: 3, K: need(l)}, 12 + len(l)*need(l)})
}

// chosen is the one that takes least, of several the first one.
func chosen(l []int) offer {
	return slices.MinFunc(offers(l), func(a, b offer) int { return a.bits - b.bits })
}

// cut is a list's parts.
func cut(l []int, p int) [][]int {
	var parts [][]int
	for i := range 1 << p {
		parts = append(parts, l[i*len(l)/(1<<p):(i+1)*len(l)/(1<<p)])
	}
	return parts
}

// code is a list's code with an order.
func code(l []int, p int) string {
	var s strings.Builder
	s.WriteString(digits(uint(p), 3))
	for _, x := range cut(l, p) {
		s.WriteString(wayCode(x, chosen(x).way))
	}
	return s.String()
}

// orders are those of n numbers.
func orders(n int) []int {
	var l []int
	for p := range 7 {
		if p == 0 || 1<<p <= n {
			l = append(l, p)
		}
	}
	return l
}

// noOrders are some numbers that are none of n numbers.
func noOrders(n int) []int {
	l := []int{math.MinInt, -1 << 32, -64, -1, 7, 8, 9, 32, 63, 64, 1 << 32, math.MaxInt}
	for p := range 7 {
		if !slices.Contains(orders(n), p) {
			l = append(l, p)
		}
	}
	return l
}

// packed is a text of bits as bytes, with bits 0 behind.
func packed(s string) []byte {
	s += strings.Repeat("0", (8-len(s)%8)%8)
	b := make([]byte, 0, len(s)/8)
	for ; s != ""; s = s[8:] {
		v, _ := strconv.ParseUint(s[:8], 2, 8)
		b = append(b, byte(v))
	}
	return b
}

// reader is a reader that has the bits of the text, and no other ones: it stands behind bits 1 that fill up the first byte.
func reader(s string) *bitio.Reader {
	ahead := (8 - len(s)%8) % 8
	r := bitio.Read(packed(strings.Repeat("1", ahead) + s))
	r.Get(ahead)
	return r
}

// has fails, if the writer has other bits than those of the text.
func has(t *testing.T, w *bitio.Writer, s string) {
	t.Helper()
	if w.Len() != len(s) || !bytes.Equal(w.Bytes(), packed(s)) {
		t.Fatalf("%d bits %x, not %d bits %x", w.Len(), w.Bytes(), len(s), packed(s))
	}
}

func is(t *testing.T, got, want api.Errno) {
	t.Helper()
	if got != want {
		t.Fatalf("error %d, not %d", got, want)
	}
}

// short is the beginning of a text that may be very long.
func short(s string) string {
	return s[:min(len(s), 200)]
}

// gets fails, if another list is got of these bits, or if not just these bits are read.
func gets(t *testing.T, s string, want []int, order int) {
	t.Helper()
	r := reader(s + "1011")
	l, p, e := part.Get(r, len(want))
	if e != api.OK || !slices.Equal(l, want) || p != order || r.Left() != 4 {
		t.Fatalf("%d of %s: %v, order %d, error %d, not %v, order %d; %d bits left", len(want), short(s), l, p, e, want, order, r.Left())
	}
}

// fails fails, if anything is got of these bits, or another error comes.
func fails(t *testing.T, s string, n int, wanted api.Errno) {
	t.Helper()
	if l, p, e := part.Get(reader(s), n); e != wanted || len(l) > 0 || p != 0 {
		t.Fatalf("%d of %s: %v, order %d, error %d, not %d", n, short(s), l, p, e, wanted)
	}
}

// few are all lists of up to five numbers that are near 0.
func few() [][]int {
	lists, from := [][]int{{}}, 0
	for range 5 {
		to := len(lists)
		for _, l := range lists[from:to] {
			for _, x := range []int{0, -1, 1, 6} {
				lists = append(lists, append(slices.Clone(l), x))
			}
		}
		from = to
	}
	return lists
}

// coded are lists that are coded: small ones, ones that need all kinds of ways, of all widths, and with the ends of what is coded.
func coded() [][]int {
	lists := append(few(), nil, make([]int, 100), make([]int, 300), []int{lowest}, []int{highest}, []int{lowest, highest}, []int{0, lowest, 0, 0, highest, 0}, []int{lowest + 1, highest - 1})
	x := noise(1)
	for i := range 300 {
		lists = append(lists, x.list(x.next(200), 1+i%40, i%101), x.list(x.next(12), 1+x.next(40), x.next(100)))
	}
	for n := range 41 {
		lists = append(lists, slices.Repeat([]int{-1 << n >> 1}, 40), slices.Repeat([]int{1<<n>>1 - 1, -1 << n >> 1}, 20))
	}
	for range 30 {
		// Its parts are unlike one another.
		lists = append(lists, slices.Concat(make([]int, 32), x.list(32, 1, 0), x.list(32, 12, 0), x.list(32, 30, 80), x.list(x.next(32), 4, 50)))
	}
	return lists
}

// beyond are numbers that no list has that is coded.
func beyond() []int {
	return []int{highest + 1, highest + 2, lowest - 1, lowest - 2, 1 << 40, -1 << 40, 1 << 62, -1 << 62, math.MaxInt, math.MinInt}
}

// notCoded are lists with such numbers, at each end and between.
func notCoded() [][]int {
	var lists [][]int
	for _, x := range beyond() {
		lists = append(lists, []int{x}, []int{x, 0, 1}, []int{0, x}, []int{1, 0, x, 0, 1}, []int{0, 0, lowest, 3, x}, []int{x, x})
	}
	return lists
}

// long are lists of one number too many: of noughts, and with a number besides that is too great.
func long() [][]int {
	noughts := make([]int, longest+1)
	worst := slices.Clone(noughts)
	worst[longest] = highest + 1
	return [][]int{noughts, worst, make([]int, 3*longest)}
}

// P9.1: the kinds' numbers.
func TestKinds(t *testing.T) {
	if part.Noughts != 0 || part.Rice != 1 || part.Runs != 2 || part.Raw != 3 {
		t.Error(part.Noughts, part.Rice, part.Runs, part.Raw)
	}
}

// The chapter's example.
func TestExample(t *testing.T) {
	l := make([]int, 4)
	if p, bits := part.Order(l); p != 0 || bits != 9 {
		t.Error(p, bits)
	}
	w := &bitio.Writer{}
	is(t, part.Put(w, l, 0), api.OK)
	has(t, w, "000"+"011111")
	gets(t, "000011111", l, 0)
}

// P9.1
func TestChoose(t *testing.T) {
	kinds := map[int]int{}
	for _, l := range coded() {
		kept := slices.Clone(l)
		way, bits := part.Choose(l)
		if want := chosen(l); way != want.way || bits != want.bits || bits != len(wayCode(l, way)) {
			t.Fatalf("Choose(%v): %v, %d, not %v", l, way, bits, want)
		}
		if !slices.Equal(l, kept) {
			t.Fatal("changed")
		}
		kinds[way.Kind]++
	}
	for kind := range 4 {
		if kinds[kind] < 40 {
			t.Errorf("of the kind %d but %d lists", kind, kinds[kind])
		}
	}
}

// sparse is so many noughts, with others behind them.
func sparse(noughts int, others ...int) []int {
	return append(make([]int, noughts), others...)
}

// P9.1: ways that take alike, at the ends of what they may, and lists half of whose numbers are 0, and one fewer.
func TestChooseKnown(t *testing.T) {
	ones := slices.Repeat([]int{-1}, 60)
	wide := slices.Repeat([]int{1 << 20, -1 << 20}, 50)
	for _, c := range []struct {
		l    []int
		way  part.Way
		bits int
	}{
		{nil, part.Way{Kind: 0, K: 0}, 6}, // Rice takes 6, too
		{[]int{}, part.Way{Kind: 0, K: 0}, 6},
		{[]int{0}, part.Way{Kind: 0, K: 0}, 6},
		{make([]int, longest), part.Way{Kind: 0, K: 0}, 6},
		{[]int{1}, part.Way{Kind: 1, K: 0}, 9},  // Zig 2: 3 bits with 0, 1, and 2
		{[]int{5}, part.Way{Kind: 1, K: 2}, 11}, // Zig 10: 5 bits with 2, 3, and 4
		{[]int{highest}, part.Way{Kind: 3, K: 40}, 52},
		{[]int{lowest}, part.Way{Kind: 3, K: 40}, 52},
		{ones[:1], part.Way{Kind: 1, K: 0}, 8},
		{ones[:6], part.Way{Kind: 1, K: 0}, 18}, // Raw takes 18, too
		{ones[:7], part.Way{Kind: 3, K: 1}, 19},
		{ones, part.Way{Kind: 3, K: 1}, 72},
		{sparse(12, highest), part.Way{Kind: 1, K: 0}, 82}, // Runs takes 82, too
		{sparse(13, highest), part.Way{Kind: 2, K: 0}, 82},
		{append([]int{-1, -1, -1, -1, -1, -1, 0, -1}, make([]int, 16)...), part.Way{Kind: 2, K: 0}, 36}, // Raw takes 36, too
		{sparse(100, wide...), part.Way{Kind: 2, K: 20}, 11 + 13 + 99 + 100*22},                         // half are 0
		{sparse(99, wide...), part.Way{Kind: 1, K: 20}, 6 + 99*21 + 50*23 + 50*22},                      // one fewer
		{sparse(100, wide[:99]...), part.Way{Kind: 2, K: 20}, 11 + 13 + 98 + 99*22},                     // half, and a half more
		{slices.Repeat([]int{1 << 30}, 40), part.Way{Kind: 3, K: 32}, 12 + 40*32},
		{slices.Repeat([]int{1<<30 + 5}, 2), part.Way{Kind: 1, K: 30}, 6 + 2*33},                               // K goes no further
		{append([]int{3 << 30}, slices.Repeat([]int{1 << 29}, 9)...), part.Way{Kind: 1, K: 30}, 6 + 37 + 9*32}, // likewise
	} {
		want := chosen(c.l)
		if way, bits := part.Choose(c.l); way != c.way || bits != c.bits || want.way != c.way {
			t.Errorf("Choose(%v): %v, %d, not %v, %d (%v)", c.l[:min(len(c.l), 20)], way, bits, c.way, c.bits, want)
		}
	}
}

// P9.1, P9.3: what is not coded has no way, no cost, and no order.
func TestNotCoded(t *testing.T) {
	for _, l := range append(notCoded(), long()...) {
		if way, bits := part.Choose(l); way != (part.Way{}) || bits != 0 {
			t.Errorf("Choose: %v, %d", way, bits)
		}
		if p, bits := part.Order(l); p != 0 || bits != 0 {
			t.Errorf("Order: %d, %d", p, bits)
		}
		for _, p := range append(orders(64), noOrders(64)...) {
			if bits := part.Cost(l, p); bits != 0 {
				t.Errorf("Cost with %d: %d", p, bits)
			}
		}
	}
}

// P9.2
func TestBounds(t *testing.T) {
	for _, n := range []int{0, 1, 2, 3, 5, 10, 63, 64, 65, 127, 1000, 4095, longest - 1, longest} {
		for p := range 7 {
			at := 0
			for i := range 1 << p {
				from, to := part.Bounds(n, p, i)
				if from != at || to != n*(i+1)/(1<<p) {
					t.Fatalf("Bounds(%d, %d, %d): %d, %d, not from %d", n, p, i, from, to, at)
				}
				at = to
			}
			if at != n {
				t.Fatalf("%d of %d numbers with %d", at, n, p)
			}
		}
	}
	for _, c := range [][5]int{{10, 2, 0, 0, 2}, {10, 2, 1, 2, 5}, {10, 2, 2, 5, 7}, {10, 2, 3, 7, 10}, {1, 6, 62, 0, 0}, {1, 6, 63, 0, 1}, {longest, 6, 63, longest - 1024, longest}, {longest, 0, 0, 0, longest}} {
		if from, to := part.Bounds(c[0], c[1], c[2]); from != c[3] || to != c[4] {
			t.Errorf("Bounds(%d, %d, %d): %d, %d, not %d, %d", c[0], c[1], c[2], from, to, c[3], c[4])
		}
	}
}

// P9.2: there is no such part.
func TestNoBounds(t *testing.T) {
	none := func(n, p, i int) {
		t.Helper()
		if from, to := part.Bounds(n, p, i); from != 0 || to != 0 {
			t.Errorf("Bounds(%d, %d, %d): %d, %d", n, p, i, from, to)
		}
	}
	for _, x := range []int{math.MinInt, -1 << 32, -longest, -64, -1, longest + 1, 1 << 32, math.MaxInt} {
		for y := range 7 {
			none(x, y, 1<<y-1)
			none(1000, x, y)
			none(1000, y, x)
			none(x, x, x)
		}
	}
	for _, p := range []int{7, 8, 16, 63, 64, 65} {
		for _, i := range []int{0, 1, 63, 64, 127} {
			none(1000, p, i)
		}
	}
	for p := range 7 {
		for _, n := range []int{0, 1, 1000, longest} {
			none(n, p, 1<<p)
			none(n, p, 1<<p+1)
			none(n, p, -1)
		}
	}
}

// P9.3, P9.4, P9.6: what is put is the code, costs as many bits as it has, and is got.
func TestCodes(t *testing.T) {
	for _, l := range coded() {
		kept := slices.Clone(l)
		for _, p := range orders(len(l)) {
			s := code(l, p)
			if bits := part.Cost(l, p); bits != len(s) {
				t.Fatalf("Cost(%v, %d): %d, not %d", l, p, bits, len(s))
			}
			w := &bitio.Writer{}
			w.Put(1, 2)
			is(t, part.Put(w, l, p), api.OK)
			has(t, w, "01"+s)
			gets(t, s, l, p)
		}
		if !slices.Equal(l, kept) {
			t.Fatal("changed")
		}
	}
}

// P9.3: what is no order costs nothing.
func TestCostOfNoOrder(t *testing.T) {
	for _, l := range coded() {
		for _, p := range noOrders(len(l)) {
			if bits := part.Cost(l, p); bits != 0 {
				t.Fatalf("Cost(%v, %d): %d", l, p, bits)
			}
		}
	}
}

// P9.3, P9.4, P9.5: how many numbers there must be for each order; with none, and with one, there is but the order 0.
func TestOrdersThatMayBe(t *testing.T) {
	for p := range 7 {
		for _, n := range []int{0, 1, 1<<p - 1, 1 << p, 1<<p + 1, longest} {
			l, s := make([]int, n), digits(uint(p), 3)+strings.Repeat("011111", 1<<p)
			if 1<<p > n && p > 0 {
				if bits := part.Cost(l, p); bits != 0 {
					t.Errorf("%d numbers, order %d: %d bits", n, p, bits)
				}
				is(t, part.Put(&bitio.Writer{}, l, p), api.ErrArg)
				fails(t, s, n, api.ErrCode)
				continue
			}
			if bits := part.Cost(l, p); bits != len(s) {
				t.Errorf("%d numbers, order %d: %d bits, not %d", n, p, bits, len(s))
			}
			w := &bitio.Writer{}
			is(t, part.Put(w, l, p), api.OK)
			has(t, w, s)
			gets(t, s, l, p)
		}
	}
	if bits := part.Cost([]int{-1}, 0); bits != 11 {
		t.Error(bits)
	}
}

// P9.3: the order by which a list costs least.
func TestOrder(t *testing.T) {
	told := map[int]int{}
	for _, l := range coded() {
		kept := slices.Clone(l)
		best, least := 0, math.MaxInt
		for _, p := range orders(len(l)) {
			bits := 3
			for _, x := range cut(l, p) {
				bits += chosen(x).bits
			}
			if bits < least {
				best, least = p, bits
			}
		}
		if p, bits := part.Order(l); p != best || bits != least {
			t.Fatalf("Order(%v): %d, %d, not %d, %d", l, p, bits, best, least)
		}
		if !slices.Equal(l, kept) {
			t.Fatal("changed")
		}
		told[best]++
	}
	for p := range 4 {
		if told[p] == 0 {
			t.Error("no list of the order", p)
		}
	}
}

// P9.3: orders that cost alike, and the ends of the orders.
func TestOrderKnown(t *testing.T) {
	// Of 64 parts each has its own width.
	var steep []int
	for i := range 64 {
		for j := range 200 {
			steep = append(steep, (1-2*(j%2))<<(i*37%64%30))
		}
	}
	for _, c := range []struct {
		l       []int
		p, bits int
		alike   int // another order with which it costs as much
	}{
		{nil, 0, 9, 0},
		{[]int{0}, 0, 9, 0},
		{make([]int, longest), 0, 9, 0},
		{[]int{0, 26}, 0, 22, 1},
		{[]int{-48, 0}, 0, 23, 1},
		{[]int{0, 0, 21, 51, -41, -52}, 0, 54, 1},
		{[]int{18, 0, 0, 228, -126}, 0, 53, 2},
		{[]int{134, 0, 906, 0, 0, -239, -184}, 1, 77, 2},
		{steep, 6, part.Cost(steep, 6), 6},
	} {
		if p, bits := part.Order(c.l); p != c.p || bits != c.bits {
			t.Errorf("Order(%v): %d, %d, not %d, %d", c.l[:min(len(c.l), 20)], p, bits, c.p, c.bits)
		}
		if bits := part.Cost(c.l, c.alike); bits != c.bits {
			t.Errorf("Cost(%v, %d): %d, not %d", c.l[:min(len(c.l), 20)], c.alike, bits, c.bits)
		}
	}
}

// P9.4: what is refused, in which order, and that nothing is written then.
func TestPutRefuses(t *testing.T) {
	w := &bitio.Writer{}
	w.Put(5, 3)
	all := append(orders(64), noOrders(64)...)
	for _, p := range all {
		for _, l := range slices.Concat(notCoded(), long(), [][]int{nil, {0}, {0, 4}}) {
			is(t, part.Put(nil, l, p), api.ErrNil)
		}
		for _, l := range long() {
			is(t, part.Put(w, l, p), api.ErrLong)
		}
		for _, l := range notCoded() {
			is(t, part.Put(w, l, p), api.ErrRange)
		}
		is(t, part.Put(w, long()[1][1:], p), api.ErrRange)
	}
	for _, l := range [][]int{nil, {0}, {0, 4}, {highest, lowest, 1}, make([]int, 63), make([]int, 64), make([]int, longest)} {
		for _, p := range noOrders(len(l)) {
			is(t, part.Put(w, l, p), api.ErrArg)
		}
	}
	has(t, w, "101")
}

// P9.1, P9.3, P9.4, P9.5, P9.6: as many numbers as may be, and one more.
func TestLongest(t *testing.T) {
	x := noise(2)
	for _, l := range [][]int{x.list(longest, 12, 0), x.list(longest, 40, 60), slices.Concat(make([]int, longest/2), x.list(longest/2, 9, 20))} {
		way, bits := part.Choose(l)
		if want := chosen(l); way != want.way || bits != want.bits {
			t.Errorf("%v, %d, not %v", way, bits, want)
		}
		p, least := part.Order(l)
		s := code(l, p)
		if least != len(s) || part.Cost(l, p) != len(s) {
			t.Errorf("order %d: %d bits, not %d", p, least, len(s))
		}
		w := &bitio.Writer{}
		is(t, part.Put(w, l, p), api.OK)
		has(t, w, s)
		got, order, e := part.Get(reader(s), longest)
		if e != api.OK || order != p || !slices.Equal(got, l) {
			t.Error("not what was put", len(got), order, e)
		}
		fails(t, s[:len(s)-1], longest, api.ErrEnd)
		fails(t, s+s, longest+1, api.ErrArg)
	}
}

// P9.7
func TestNoMoreThanRaw(t *testing.T) {
	for _, l := range coded() {
		most := 15 + len(l)*need(l)
		if _, bits := part.Order(l); bits > most {
			t.Fatalf("%v: %d bits, more than %d", l, bits, most)
		}
		if bits := part.Cost(l, 0); bits > most {
			t.Fatalf("%v: %d bits, more than %d", l, bits, most)
		}
	}
	if _, bits := part.Order(slices.Repeat([]int{lowest, highest}, 20)); bits != 15+40*40 {
		t.Error(bits)
	}
}

// P9.5: what is refused ahead of reading, and in which order.
func TestGetRefuses(t *testing.T) {
	counts := []int{math.MinInt, -1 << 32, -1, longest + 1, 1 << 32, math.MaxInt}
	for _, n := range append(counts, 0, 1, 2, longest) {
		l, p, e := part.Get(nil, n)
		if is(t, e, api.ErrNil); len(l) > 0 || p != 0 {
			t.Error(l, p)
		}
	}
	for _, n := range counts {
		fails(t, "", n, api.ErrArg)
		fails(t, "111", n, api.ErrArg)
		fails(t, "000011111", n, api.ErrArg)
	}
	if l, p, e := part.Get(&bitio.Reader{}, 0); e != api.ErrEnd || len(l) > 0 || p != 0 {
		t.Error("a reader of nothing", l, p, e)
	}
	gets(t, "000011111", make([]int, longest), 0)
	gets(t, "000011111", nil, 0)
}

// P9.5: bits that are missing, wherever the code is cut off.
func TestGetEnds(t *testing.T) {
	for i, l := range coded() {
		if len(l) > 40 && i%10 > 0 {
			continue
		}
		for _, p := range orders(len(l)) {
			s := code(l, p)
			for n := range min(len(s), 300) {
				fails(t, s[:n], len(l), api.ErrEnd)
			}
			fails(t, s[:len(s)-1], len(l), api.ErrEnd)
		}
	}
}

// P9.5: an order that may not be is told behind its bits, whatever comes next.
func TestGetNoOrder(t *testing.T) {
	for p := range uint(8) {
		for _, n := range []int{0, 1, 2, 3, 4, 7, 8, 15, 16, 31, 32, 63, 64, longest} {
			if slices.Contains(orders(n), int(p)) {
				gets(t, digits(p, 3)+strings.Repeat("011111", 1<<p), make([]int, n), int(p))
				continue
			}
			for _, behind := range []string{"", "0", "111111", strings.Repeat("011111", 64)} {
				fails(t, digits(p, 3)+behind, n, api.ErrCode)
			}
		}
		fails(t, digits(p, 3)[:2], 64, api.ErrEnd)
	}
}

// P9.5: a way that may not be is told behind its bits, whatever comes next, in the first part, and in a later one.
func TestGetNoWay(t *testing.T) {
	for _, ahead := range []string{"000", "001", "001" + "011111", "001" + wayCode([]int{5, -5}, part.Way{Kind: 3, K: 7})} {
		for way := range uint(64) {
			s := ahead + digits(way, 6)
			for _, n := range []int{4, 5} {
				fails(t, s[:len(s)-1], n, api.ErrEnd)
				for _, behind := range []string{"", "0", "1", strings.Repeat("0", 400), strings.Repeat("1", 400)} {
					if way > 33 {
						fails(t, s+behind, n, api.ErrCode)
					}
				}
			}
		}
	}
	l := []int{0, 3, -4}
	for k := range 31 {
		gets(t, "000"+wayCode(l, part.Way{Kind: 1, K: k}), l, 0)
	}
	gets(t, "000011111", []int{0, 0, 0}, 0)
	gets(t, "000100000"+"00000"+numbers(l, part.Way{Kind: 2, K: 0}), l, 0)
	gets(t, "000100001"+"000100"+numbers(l, part.Way{Kind: 3, K: 4}), l, 0)
}

// P9.5: a K that may not be is told behind its bits, whatever comes next; also where there are no numbers.
func TestGetNoK(t *testing.T) {
	l := []int{0, 0, -1, 0}
	for _, behind := range []string{"", "0", "1", strings.Repeat("01", 200)} {
		for _, n := range []int{0, 1, 4} {
			fails(t, "000"+"100000"+"11111"+behind, n, api.ErrCode)
			for k := range uint(64) {
				if k < 1 || k > 41 {
					fails(t, "000"+"100001"+digits(k, 6)+behind, n, api.ErrCode)
				}
			}
		}
	}
	for k := range 42 {
		if k > 0 {
			gets(t, "000"+wayCode(l, part.Way{Kind: 3, K: k}), l, 0)
			gets(t, "000"+mark(part.Way{Kind: 3, K: k}), nil, 0)
		}
		if k < 31 {
			gets(t, "000"+wayCode(l, part.Way{Kind: 2, K: k}), l, 0)
			gets(t, "000"+mark(part.Way{Kind: 2, K: k}), nil, 0)
			gets(t, "000"+mark(part.Way{Kind: 1, K: k}), nil, 0)
		}
	}
	for n := range 5 {
		fails(t, "000"+"100000"+"1111"[:n], 0, api.ErrEnd)
		fails(t, "000"+"100001"+"111111"[:n+1], 0, api.ErrEnd)
	}
}

// P9.5: ways that do not take least are read as well, each with each K that it may have; also cut off.
func TestGetAnyWay(t *testing.T) {
	for _, l := range [][]int{{}, {0}, make([]int, 9), {-1}, {7, -8, 0, 3}, {0, 0, 1, 0}, {5, 6, 7, 8, -9}, {lowest, 0, highest}, {1 << 20, -1 << 20, 1<<20 - 1, -1<<20 - 1}} {
		for kind := range 4 {
			for k := range 42 {
				way := part.Way{Kind: kind, K: k}
				isNone := kind == 0 && (k > 0 || slices.ContainsFunc(l, func(x int) bool { return x != 0 }))
				if isNone || kind < 3 && k > 30 || kind == 3 && k < need(l) {
					continue
				}
				s := "000" + wayCode(l, way)
				gets(t, s, l, 0)
				for n := range s {
					fails(t, s[:n], len(l), api.ErrEnd)
				}
			}
		}
	}
}

// P9.5: parts that are coded in different ways, whether these take least or not.
func TestGetPartsInAnyWays(t *testing.T) {
	x := noise(4)
	for range 2000 {
		n := 1 + x.next(150)
		l := x.list(n, 1+x.next(39), x.next(120))
		all := orders(n)
		p := all[x.next(len(all))]
		s := digits(uint(p), 3)
		for _, some := range cut(l, p) {
			way := part.Way{Kind: 1 + x.next(2), K: x.next(31)}
			switch {
			case need(some) == 1 && !slices.Contains(some, -1) && x.next(2) == 0:
				way = part.Way{}
			case x.next(3) == 0:
				way = part.Way{Kind: 3, K: need(some) + x.next(42-need(some))}
			}
			s += wayCode(some, way)
		}
		gets(t, s, l, p)
		fails(t, s[:x.next(len(s))], n, api.ErrEnd)
	}
}

// P9.5: numbers below 0 in Raw, with each K: the least one that it holds among them.
func TestGetRaw(t *testing.T) {
	for k := 1; k <= 40; k++ {
		half := 1 << (k - 1)
		s := "000100001" + digits(uint(k), 6)
		gets(t, s+"1"+strings.Repeat("0", k-1), []int{-half}, 0)
		gets(t, s+"0"+strings.Repeat("1", k-1), []int{half - 1}, 0)
		gets(t, s+strings.Repeat("1", k)+strings.Repeat("0", k), []int{-1, 0}, 0)
		l := slices.Repeat([]int{-half, half - 1, -half / 2}, 50)
		if way, bits := part.Choose(l); k > 2 && (way != part.Way{Kind: 3, K: k} || bits != 12+150*k) {
			t.Errorf("%d: %v, %d", k, way, bits)
		}
		w := &bitio.Writer{}
		is(t, part.Put(w, l, 0), api.OK)
		has(t, w, code(l, 0))
	}
}

// P9.5: numbers whose Zig is one below 2^40, and 2^40, in each kind of way; that is told behind the number's last bit, whatever comes next.
func TestGetZigTooGreat(t *testing.T) {
	for _, x := range []int{lowest, highest, lowest + 1, highest - 1} {
		for k := range 31 {
			gets(t, "000"+wayCode([]int{3, x}, part.Way{Kind: 1, K: k}), []int{3, x}, 0)
			gets(t, "000"+wayCode([]int{0, x}, part.Way{Kind: 2, K: k}), []int{0, x}, 0)
		}
		gets(t, "000"+wayCode([]int{3, x}, part.Way{Kind: 3, K: 40}), []int{3, x}, 0)
		gets(t, "000"+wayCode([]int{3, x}, part.Way{Kind: 3, K: 41}), []int{3, x}, 0)
	}
	for _, behind := range []string{"", "0", strings.Repeat("1", 90)} {
		for _, x := range []int{highest + 1, highest + 2, lowest - 1, lowest - 2, 1<<40 - 1, -1 << 40} {
			s := "000" + wayCode([]int{-3, x}, part.Way{Kind: 3, K: 41})
			for _, n := range []int{2, 3} {
				fails(t, s+behind, n, api.ErrCode)
				fails(t, s[:len(s)-1], n, api.ErrEnd)
			}
		}
		for k := range 31 {
			s := "000" + mark(part.Way{Kind: 2, K: k}) + gamma(2) + strings.Repeat("1", 64)
			fails(t, s+behind, 2, api.ErrCode)
			fails(t, s+behind, 9, api.ErrCode)
			fails(t, s[:len(s)-1], 2, api.ErrEnd)
		}
	}
}

// P9.5: numbers that are none of a code, in Rice and in Runs.
func TestGetNoNumber(t *testing.T) {
	for k := range 31 {
		whole := strings.Repeat("1", 24) + digits(24<<k-1, 40)
		rice, runs := "000"+mark(part.Way{Kind: 1, K: k}), "000"+mark(part.Way{Kind: 2, K: k})
		for _, behind := range []string{"", "0", strings.Repeat("1", 90)} {
			fails(t, rice+rest(5, k)+whole+behind, 2, api.ErrCode)
			fails(t, rice+rest(5, k)+whole+behind, 3, api.ErrCode)
			fails(t, runs+gamma(2)+whole+behind, 2, api.ErrCode)
			fails(t, runs+gamma(4)+behind, 2, api.ErrCode)
			fails(t, runs+strings.Repeat("0", 32)+behind, 2, api.ErrCode)
		}
		fails(t, rice+rest(5, k)+whole[:63], 2, api.ErrEnd)
		fails(t, runs+gamma(2)+whole[:63], 2, api.ErrEnd)
		fails(t, runs+strings.Repeat("0", 31), 2, api.ErrEnd)
	}
}

// row is bits as a text, read one by one.
type row struct {
	s  string
	at int
}

// take reads n bits.
func (x *row) take(n int) (uint, api.Errno) {
	if x.at+n > len(x.s) {
		return 0, api.ErrEnd
	}
	v, _ := strconv.ParseUint("0"+x.s[x.at:x.at+n], 2, 64)
	x.at += n
	return uint(v), api.OK
}

// alike reads bits that are like b, up to most, or up to one that is not, which is read, too.
func (x *row) alike(b uint, most int) (int, api.Errno) {
	for n := range most {
		v, e := x.take(1)
		if e != api.OK {
			return 0, e
		}
		if v != b {
			return n, api.OK
		}
	}
	return most, api.OK
}

func (x *row) gamma() (uint, api.Errno) {
	zeros, e := x.alike(0, 32)
	if e != api.OK {
		return 0, e
	}
	if zeros == 32 {
		return 0, api.ErrCode
	}
	v, e := x.take(zeros)
	return v + 1<<zeros, e
}

func (x *row) rest(k int) (uint, api.Errno) {
	ones, e := x.alike(1, 24)
	if e != api.OK {
		return 0, e
	}
	if ones < 24 {
		v, e := x.take(k)
		return v + uint(ones)<<k, e
	}
	v, e := x.take(40)
	if e == api.OK && v < 24<<k {
		return 0, api.ErrCode
	}
	return v, e
}

// zag is the number of a Zig, if it may be.
func zag(u uint) (int, api.Errno) {
	switch {
	case u >= 1<<40:
		return 0, api.ErrCode
	case u%2 == 1:
		return -int(u/2) - 1, api.OK
	}
	return int(u / 2), api.OK
}

// runs reads n numbers by runs.
func (x *row) runs(n, k int) ([]int, api.Errno) {
	var l []int
	for len(l) < n {
		v, e := x.gamma()
		if e != api.OK {
			return nil, e
		}
		if int(v)-1 > n-len(l) {
			return nil, api.ErrCode
		}
		l = append(l, make([]int, v-1)...)
		if len(l) == n {
			break
		}
		u, e := x.rest(k)
		if e != api.OK {
			return nil, e
		}
		number, e := zag(u + 1)
		if e != api.OK {
			return nil, e
		}
		l = append(l, number)
	}
	return l, api.OK
}

// raw reads a number in k bits.
func (x *row) raw(k int) (int, api.Errno) {
	u, e := x.take(k)
	number := int(u)
	if number >= 1<<(k-1) {
		number -= 1 << k
	}
	if e == api.OK && (number < lowest || number > highest) {
		e = api.ErrCode
	}
	return number, e
}

// each reads n numbers one by one.
func each(n int, read func() (int, api.Errno)) ([]int, api.Errno) {
	var l []int
	for range n {
		number, e := read()
		if e != api.OK {
			return nil, e
		}
		l = append(l, number)
	}
	return l, api.OK
}

// part reads n numbers in whichever way.
func (x *row) part(n int) ([]int, api.Errno) {
	way, e := x.take(6)
	if e != api.OK {
		return nil, e
	}
	if way < 31 {
		return each(n, func() (int, api.Errno) {
			u, e := x.rest(int(way))
			if e != api.OK {
				return 0, e
			}
			return zag(u)
		})
	}
	if way == 31 {
		return make([]int, n), api.OK
	}
	if way > 33 {
		return nil, api.ErrCode
	}
	k, e := x.take(int(way) - 27)
	if e != api.OK {
		return nil, e
	}
	if way == 32 {
		if k == 31 {
			return nil, api.ErrCode
		}
		return x.runs(n, int(k))
	}
	if k == 0 || k > 41 {
		return nil, api.ErrCode
	}
	return each(n, func() (int, api.Errno) { return x.raw(int(k)) })
}

// list is what should be got, and its order.
func (x *row) list(n int) ([]int, int, api.Errno) {
	p, e := x.take(3)
	if e != api.OK {
		return nil, 0, e
	}
	if !slices.Contains(orders(n), int(p)) {
		return nil, 0, api.ErrCode
	}
	var l []int
	for _, some := range cut(make([]int, n), int(p)) {
		numbers, e := x.part(len(some))
		if e != api.OK {
			return nil, 0, e
		}
		l = append(l, numbers...)
	}
	return l, int(p), api.OK
}

// P9.5: whatever bits are there.
func TestGetOfAnything(t *testing.T) {
	told := map[api.Errno]int{}
	try := func(s string, n int) {
		t.Helper()
		x, r := row{s: s}, reader(s)
		want, order, wanted := x.list(n)
		l, p, e := part.Get(r, n)
		if e != wanted || p != order || !slices.Equal(l, want) || e == api.OK && r.Left() != len(s)-x.at {
			t.Fatalf("%d of %s: %v, order %d, error %d, not %v, order %d, error %d", n, s, l, p, e, want, order, wanted)
		}
		told[e]++
	}
	for v := range uint(1 << 15) {
		for _, n := range []int{0, 1, 2, 3} {
			try(digits(v, 15), n)
		}
	}
	x := noise(3)
	for i := range 40000 {
		try(x.bits(20, 2+i%20), x.next(20))
		// Each way comes, with each order; what follows is any bits.
		try(digits(uint(i%4), 3)+digits(uint(i%35), 6)+x.bits(40, 3+i%9), 8+x.next(8))
	}
	for _, e := range []api.Errno{api.OK, api.ErrEnd, api.ErrCode} {
		if told[e] < 1000 {
			t.Errorf("error %d came but %d times", e, told[e])
		}
	}
}

// P9.5: codes of which one bit is another one.
func TestGetOfDamaged(t *testing.T) {
	for i, l := range coded() {
		if i%7 > 0 || len(l) == 0 || len(l) > 60 {
			continue
		}
		for _, p := range orders(len(l)) {
			s := code(l, p)
			for at := range s {
				b := []byte(s)
				b[at] ^= 1
				x, r := row{s: string(b)}, reader(string(b))
				want, order, wanted := x.list(len(l))
				got, q, e := part.Get(r, len(l))
				if e != wanted || q != order || !slices.Equal(got, want) || e == api.OK && r.Left() != len(s)-x.at {
					t.Fatalf("%d of %s: %v, order %d, error %d, not %v, order %d, error %d", len(l), b, got, q, e, want, order, wanted)
				}
			}
		}
	}
}
