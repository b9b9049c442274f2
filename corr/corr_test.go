package corr_test

import (
	"bytes"
	"math"
	"math/big"
	"math/bits"
	"slices"
	"strconv"
	"strings"
	"testing"

	"descant/api"
	"descant/bitio"
	"descant/corr"
	"descant/part"
)

const (
	longest  = 1 << 16 // numbers of one list, at the most
	boundEnd = 1 << 31 // the greatest bound
	heldEnd  = 1 << 62 // where numbers stop
)

// noise is numbers that look like chance, and are the same ones at each run.
type noise uint64

func (x *noise) next(n int) int {
	*x = *x*6364136223846793005 + 1442695040888963407
	return int(*x >> 33 % noise(n))
}

// number is a number of so many bits, up to 64.
func (x *noise) number(bits int) int {
	return (x.next(1<<31)<<33 ^ x.next(1<<31)<<13 ^ x.next(1<<31)) >> (64 - bits)
}

// within is a number that the bound allows, up to 2^31.
func (x *noise) within(bound int) int {
	return x.next(bound+1) - x.next(bound+1)
}

// anyBound is one of all sizes.
func (x *noise) anyBound() int {
	switch bound := 1 << x.next(32); x.next(4) {
	case 0:
		return bound
	case 1:
		return bound - 1
	default:
		return x.next(bound)
	}
}

// missed is n numbers that the bound allows, of one of the kinds that there are.
func (x *noise) missed(n, bound int) []int {
	kind, l := x.next(6), make([]int, n)
	for i := range l {
		switch kind {
		case 0:
			l[i] = x.within(bound)
		case 1:
			l[i] = x.within(min(bound, 3))
		case 2:
			l[i] = []int{-bound, bound, bound, 0, 1 - bound}[x.next(5)]
		case 3:
			if x.next(8) == 0 {
				l[i] = x.within(bound)
			}
		case 4:
			// Loud and quiet by turns.
			l[i] = x.within(bound * (i * 8 / n % 2))
		}
		l[i] = min(max(l[i], -bound), bound)
	}
	return l
}

// bounds are small ones, the powers of 2, and what is next to these.
func bounds() []int {
	l := []int{0, 1, 2, 3, 4, 5, 6, 7, 8, 9, 10, 100, 1000000}
	for b := 4; b < 31; b++ {
		l = append(l, 1<<b-1, 1<<b, 1<<b+1)
	}
	return append(l, boundEnd-1, boundEnd)
}

// noBounds are such as may not be.
func noBounds() []int {
	return []int{-1, -2, -1 << 31, math.MinInt, boundEnd + 1, 1 << 32, 1 << 38, 1 << 62, math.MaxInt}
}

// digits are the lowest n bits of x, as a text.
func digits(x, n int) string {
	s := strings.Repeat("0", 64) + strconv.FormatUint(uint64(x)&(1<<n-1), 2)
	return s[len(s)-n:]
}

// packed is a text of bits as bytes, with bits 0 behind.
func packed(s string) []byte {
	s += strings.Repeat("0", (8-len(s)%8)%8)
	b := make([]byte, 0, len(s)/8)
	for ; s != ""; s = s[8:] {
		v, _ := strconv.ParseUint(s[:8], 2, 8)
		b = append(b, byte(v))
	}
	return b
}

// text is the bits of a writer, as a text.
func text(w *bitio.Writer) string {
	var s strings.Builder
	for _, b := range w.Bytes() {
		s.WriteString(digits(int(b), 8))
	}
	return s.String()[:w.Len()]
}

// reader is a reader that has the bits of the text, and no other ones: it stands behind bits 1 that fill up the first byte.
func reader(s string) *bitio.Reader {
	ahead := (8 - len(s)%8) % 8
	r := bitio.Read(packed(strings.Repeat("1", ahead) + s))
	r.Get(ahead)
	return r
}

// partCode is the code of layer 9.
func partCode(l []int, order int) string {
	w := &bitio.Writer{}
	part.Put(w, l, order)
	return text(w)
}

// spanOf is how many numbers a bound allows, of how many bits the longer codes are, and how many have the shorter ones.
func spanOf(bound int) (span, long, short int) {
	span = 2*bound + 1
	long = bits.Len(uint(span - 1))
	return span, long, 1<<long - span
}

// evenCode and partedCode are both codes, as the words say them.
func evenCode(l []int, bound int) string {
	var s strings.Builder
	s.WriteString("0")
	_, long, short := spanOf(bound)
	for _, x := range l {
		if v := x + bound; v < short {
			s.WriteString(digits(v, long-1))
		} else {
			s.WriteString(digits(v+short, long))
		}
	}
	return s.String()
}

func partedCode(l []int, order int) string {
	return "1" + partCode(l, order)
}

// bestParted is the shortest code in parts, by the least order of several, asked one by one.
func bestParted(l []int) string {
	best := partedCode(l, 0)
	for p := 1; p <= 6 && 1<<p <= len(l); p++ {
		if code := partedCode(l, p); len(code) < len(best) {
			best = code
		}
	}
	return best
}

// model is the code of numbers, word by word.
func model(l []int, bound int) string {
	asEven, inParts := evenCode(l, bound), bestParted(l)
	if len(inParts) < len(asEven) {
		return inParts
	}
	return asEven
}

// puts fails, if numbers cost something else, or have another code, or are not got back.
func puts(t *testing.T, l []int, bound int, code string) {
	t.Helper()
	kept := slices.Clone(l)
	if got, e := corr.Cost(l, bound); e != api.OK || got != len(code) {
		t.Fatalf("of %v, bound %d: %d bits, error %d, not %d", kept, bound, got, e, len(code))
	}
	w := &bitio.Writer{}
	w.Put(5, 3)
	if e := corr.Put(w, l, bound); e != api.OK || text(w) != "101"+code {
		t.Fatalf("of %v, bound %d: bits %s, error %d, not 101 and %s", kept, bound, text(w), e, code)
	}
	if !slices.Equal(l, kept) {
		t.Fatal("what was handed in has changed")
	}
	gets(t, code, bound, l)
}

// gets fails, if something else is got of these bits, also if others stand behind them, or if what was read is not all of them.
func gets(t *testing.T, code string, bound int, want []int) {
	t.Helper()
	for _, behind := range []string{"", "1", "0110"} {
		r := reader(code + behind)
		l, e := corr.Get(r, len(want), bound)
		if e != api.OK || !slices.Equal(l, want) || r.Left() != len(behind) {
			t.Fatalf("%d numbers, bound %d, of %s: %v, error %d, %d left, not %v", len(want), bound, code, l, e, r.Left(), want)
		}
	}
}

// refuses fails, if something is got of these bits, or there is another error.
func refuses(t *testing.T, code string, n, bound int, want api.Errno) {
	t.Helper()
	if l, e := corr.Get(reader(code), n, bound); e != want || len(l) > 0 {
		t.Fatalf("%d numbers, bound %d, of %s: %v, error %d, not %d", n, bound, code, l, e, want)
	}
}

// putsNone fails, if numbers cost something, or something is written, or there is another error.
func putsNone(t *testing.T, l []int, bound int, want api.Errno) {
	t.Helper()
	if cost, e := corr.Cost(l, bound); e != want || cost != 0 {
		t.Errorf("%d numbers, bound %d: %d bits, error %d, not %d", len(l), bound, cost, e, want)
	}
	w := &bitio.Writer{}
	w.Put(5, 3)
	if e := corr.Put(w, l, bound); e != want || text(w) != "101" {
		t.Errorf("%d numbers, bound %d: error %d, not %d, bits %s", len(l), bound, e, want, text(w))
	}
	if e := corr.Put(nil, l, bound); e != api.ErrNil {
		t.Errorf("%d numbers, bound %d, no writer: error %d", len(l), bound, e)
	}
}

// cutOff fails, if a code is got though bits of it are missing.
func cutOff(t *testing.T, code string, n, bound int) {
	t.Helper()
	for i := range len(code) {
		refuses(t, code[:i], n, bound, api.ErrEnd)
	}
}

// P21.1, P21.2, P21.4, P21.5: codes by hand.
func TestByHand(t *testing.T) {
	for _, c := range []struct {
		l     []int
		bound int
		code  string
	}{
		{[]int{0, -1, 1}, 1, "0" + "10" + "0" + "11"},
		{nil, 0, "0"},
		{[]int{}, 5, "0"},
		{nil, boundEnd, "0"},
		{[]int{0}, 0, "0"},
		{make([]int, 100), 0, "0"},
		{[]int{-2, -1, 0, 1, 2}, 2, "0" + "00" + "01" + "10" + "110" + "111"},
		{[]int{-3, 3}, 3, "0" + "00" + "111"},
		// Noughts take nine bits in parts: as many as three of three, that are not so, and fewer than ten.
		{make([]int, 4), 1, "0" + "10101010"},
		{make([]int, 5), 1, "1" + "000" + "011111"},
		{make([]int, 3), 4, "0" + "100100100"},
		{make([]int, 4), 4, "1" + "000" + "011111"},
		{make([]int, 1), 256, "0" + "100000000"},
		{make([]int, 1), 340, "0" + "101010100"},
		{make([]int, 1), 341, "1" + "000" + "011111"},
		{make([]int, 9), boundEnd, "1" + "000" + "011111"},
		// By quotient and rest.
		{[]int{5, 1, -3, 7}, 100, "1" + "000" + "000010" + "11010" + "010" + "1001" + "111010"},
		{[]int{5, 1, -3, 7}, 31, "0" + "100101" + "100001" + "011101" + "100111"},
		{[]int{5, 1, -3, 7}, 32, "0" + "100101" + "100001" + "011101" + "100111"},
		// The ends of the greatest span.
		{[]int{-boundEnd}, boundEnd, "0" + "00000000000000000000000000000000"},
		{[]int{boundEnd - 2}, boundEnd, "0" + "11111111111111111111111111111110"},
		{[]int{boundEnd - 1}, boundEnd, "0" + "111111111111111111111111111111110"},
		{[]int{boundEnd}, boundEnd, "0" + "111111111111111111111111111111111"},
	} {
		if code := model(c.l, c.bound); code != c.code {
			t.Errorf("the model of %v, bound %d: %s, not %s", c.l, c.bound, code, c.code)
		}
		puts(t, c.l, c.bound, c.code)
		cutOff(t, c.code, len(c.l), c.bound)
	}
}

// P21.1, P21.2, P21.4: all lists of few numbers with small bounds.
func TestSmallLists(t *testing.T) {
	for bound, longest := range []int{3, 5, 4, 3, 3} {
		span := 2*bound + 1
		for n, count := 0, 1; n <= longest; n, count = n+1, count*span {
			for number := range count {
				l := make([]int, n)
				for i := range l {
					l[i] = number%span - bound
					number /= span
				}
				puts(t, l, bound, model(l, bound))
				puts(t, l, bound+1, model(l, bound+1))
			}
		}
	}
}

// P21.1, P21.2, P21.4: numbers of all kinds, with bounds of all sizes, word by word.
func TestAllKinds(t *testing.T) {
	x, kinds, orders := noise(1), make(map[byte]int), make(map[string]int)
	note := func(l []int, bound int) {
		code := model(l, bound)
		puts(t, l, bound, code)
		kinds[code[0]]++
		if code[0] == '1' {
			orders[code[1:4]]++
		}
	}
	for _, bound := range bounds() {
		for range 15 {
			note(x.missed(1+x.next(300), bound), bound)
		}
	}
	for range 300 {
		bound := x.anyBound()
		note(x.missed(x.next(800), bound), bound)
	}
	if kinds['0'] < 100 || kinds['1'] < 100 || len(orders) < 7 {
		t.Error(kinds, orders)
	}
}

// P21.1: of two codes that are as short, the first one.
func TestTies(t *testing.T) {
	x, ties := noise(2), 0
	for range 20000 {
		bound := 1 + x.next(1<<(1+x.next(8)))
		l := x.missed(1+x.next(16), bound)
		as := evenCode(l, bound)
		if len(as) != len(bestParted(l)) {
			continue
		}
		ties++
		puts(t, l, bound, as)
	}
	if ties < 50 {
		t.Error(ties)
	}
}

// P21.5, P21.1: with the bound 0 nothing is missed, however many there are.
func TestNothingMissed(t *testing.T) {
	for _, n := range []int{0, 1, 2, 9, 10, 11, 1000, longest} {
		puts(t, make([]int, n), 0, "0")
		if n == 0 {
			continue
		}
		for _, x := range []int{1, -1, boundEnd, math.MinInt, math.MaxInt} {
			l := make([]int, n)
			l[n-1] = x
			putsNone(t, l, 0, api.ErrBound)
		}
		// In parts, though one bit would do.
		gets(t, "1"+"000"+"011111", 0, make([]int, n))
		refuses(t, partedCode(append(make([]int, n-1), 1), 0), n, 0, api.ErrBound)
	}
}

// P21.1: numbers beyond the bound, only just, and by far, at either end of a list.
func TestBeyond(t *testing.T) {
	x := noise(3)
	for _, bound := range bounds() {
		for _, miss := range []int{bound + 1, -bound - 1, 1 << 32, -1 << 40, 1 << 62, math.MinInt, math.MaxInt} {
			for _, l := range [][]int{{miss}, {miss, 0}, {0, miss}, {bound, miss, -bound}, append(x.missed(50, bound), miss)} {
				if miss > bound || miss < -bound {
					putsNone(t, l, bound, api.ErrBound)
				}
			}
		}
		for _, l := range [][]int{{bound}, {-bound}, {bound, -bound}, {0, -bound, bound, 0}, slices.Repeat([]int{bound}, 40)} {
			puts(t, l, bound, model(l, bound))
		}
	}
}

// P21.1: what may not be, in the order in which it is named; none, if there is no writer, but that.
func TestPutWrong(t *testing.T) {
	long, loud := make([]int, longest+1), slices.Repeat([]int{1 << 40}, longest+1)
	for _, l := range [][]int{nil, {}, {0}, {0, -1, 1}, {1 << 40}, {math.MinInt, math.MaxInt}, long, loud} {
		for _, bound := range noBounds() {
			putsNone(t, l, bound, api.ErrArg)
		}
	}
	for _, l := range [][]int{long, loud} {
		for _, bound := range bounds() {
			putsNone(t, l, bound, api.ErrLong)
		}
	}
	if e := corr.Put(nil, []int{0}, 1); e != api.ErrNil {
		t.Error(e)
	}
}

// P21.2: no reader, and numbers and bounds that may not be, whatever stands there.
func TestGetNone(t *testing.T) {
	wrong := []int{-1, -8, -1 << 16, math.MinInt, math.MaxInt, 1<<32 + 1, longest + 1, 1 << 20}
	codes := []string{"", "0", "1", "0" + strings.Repeat("0", 70), "1" + strings.Repeat("1", 70), "1" + "000" + "011111"}
	for _, n := range append(wrong, 0, 1, longest) {
		for _, bound := range append(noBounds(), 0, 1, boundEnd) {
			if l, e := corr.Get(nil, n, bound); e != api.ErrNil || len(l) > 0 {
				t.Errorf("no reader, %d numbers, bound %d: %v, error %d", n, bound, l, e)
			}
			if slices.Contains(wrong, n) || slices.Contains(noBounds(), bound) {
				for _, code := range codes {
					refuses(t, code, n, bound, api.ErrArg)
				}
			}
		}
	}
	for _, bound := range bounds() {
		refuses(t, "", 0, bound, api.ErrEnd)
		refuses(t, "", longest, bound, api.ErrEnd)
		gets(t, "0", bound, nil)
		if bound > 0 {
			refuses(t, "0"+strings.Repeat("1", 100), longest, bound, api.ErrEnd)
		}
	}
	if l, e := corr.Get(&bitio.Reader{}, 0, 8); e != api.ErrEnd || len(l) > 0 {
		t.Errorf("a reader of nothing: %v, error %d", l, e)
	}
}

// P21.2: both kinds, by whatever order, also such as would be shorter otherwise.
func TestGetBoth(t *testing.T) {
	x := noise(4)
	for _, bound := range bounds() {
		for range 4 {
			n := x.next(80)
			l := x.missed(max(n, 1), bound)[:n]
			gets(t, evenCode(l, bound), bound, l)
			for p := range 7 {
				if p == 0 || n >= 1<<p {
					gets(t, partedCode(l, p), bound, l)
				}
			}
		}
		l := x.missed(9, bound)
		cutOff(t, evenCode(l, bound), 9, bound)
		for p := range 4 {
			cutOff(t, partedCode(l, p), 9, bound)
		}
	}
}

// P21.2: codes that may not be; bits that are missing are told, if they are missing ahead of these.
func TestGetCodes(t *testing.T) {
	for _, n := range []int{0, 1, 3, longest} {
		refuses(t, "1"+"111", n, 5, api.ErrCode)
		refuses(t, "1"+"11", n, 5, api.ErrEnd)
		for way := 34; way < 64; way++ {
			refuses(t, "1"+"000"+digits(way, 6), n, 5, api.ErrCode)
			refuses(t, "1"+"000"+digits(way, 6)+"0000000000", n, 5, api.ErrCode)
			refuses(t, "1"+"000"+digits(way, 6)[:5], n, 5, api.ErrEnd)
		}
	}
	// Orders that so few numbers have not.
	refuses(t, "1"+"001"+"011111"+"011111", 0, 5, api.ErrCode)
	refuses(t, "1"+"001"+"011111"+"011111", 1, 5, api.ErrCode)
	gets(t, "1"+"001"+"011111"+"011111", 5, []int{0, 0})
	// A number that is none of a list's: all 41 bits of Raw, and the least number of these.
	refuses(t, "1"+"000"+"100001"+"101001"+"1"+strings.Repeat("0", 40), 1, boundEnd, api.ErrCode)
}

// P21.2: numbers in parts that are beyond the bound; bits that are missing and codes that may not be are told ahead of that.
func TestGetBeyond(t *testing.T) {
	for _, bound := range bounds() {
		for _, miss := range []int{bound + 1, -bound - 1, 1<<39 - 1, -1 << 39} {
			for _, l := range [][]int{{miss}, {miss, 0}, {0, miss}, {0, bound, miss, -bound}} {
				code := partedCode(l, 0)
				refuses(t, code, len(l), bound, api.ErrBound)
				refuses(t, code+"1", len(l), bound, api.ErrBound)
				cutOff(t, code, len(l), bound)
			}
			// The last part's way is none.
			refuses(t, "1"+"001"+partCode([]int{miss}, 0)[3:]+"111111", 2, bound, api.ErrCode)
			refuses(t, "1"+"001"+partCode([]int{miss}, 0)[3:]+"11111", 2, bound, api.ErrEnd)
		}
		for _, l := range [][]int{{bound}, {-bound}, {bound, 0, -bound}} {
			gets(t, partedCode(l, 0), bound, l)
		}
	}
}

// readOf is what a row of bits says, read number by number; in parts as their layer does.
func readOf(row string, n, bound int) ([]int, api.Errno) {
	if row == "" {
		return nil, api.ErrEnd
	}
	if row[0] == '1' {
		l, _, e := part.Get(reader(row[1:]), n)
		for _, x := range l {
			if x > bound || x < -bound {
				return nil, api.ErrBound
			}
		}
		return l, e
	}
	_, long, short := spanOf(bound)
	var l []int
	for row = row[1:]; len(l) < n; {
		v := 0
		for width := long - 1; width >= 0; width++ {
			if len(row) < width {
				return nil, api.ErrEnd
			}
			u, _ := strconv.ParseUint("0"+row[:width], 2, 64)
			v = int(u)
			if width == long {
				v -= short
			}
			if v < short || width == long {
				row = row[width:]
				break
			}
		}
		l = append(l, v-bound)
	}
	return l, api.OK
}

// asRead fails, if something else is got of these bits than they say.
func asRead(t *testing.T, row string, n, bound int) ([]int, api.Errno) {
	t.Helper()
	want, wantErr := readOf(row, n, bound)
	l, e := corr.Get(reader(row), n, bound)
	if e != wantErr || !slices.Equal(l, want) {
		t.Fatalf("%d numbers, bound %d, of %s: %v, error %d, not %v, error %d", n, bound, row, l, e, want, wantErr)
	}
	for _, x := range l {
		if x < -bound || x > bound {
			t.Fatalf("bound %d: %v", bound, l)
		}
	}
	return l, e
}

// P21.2: all rows of few bits.
func TestShortRows(t *testing.T) {
	for long := range 15 {
		for number := range 1 << long {
			row := digits(number, long)
			for _, bound := range []int{0, 1, 2, 3, 5} {
				asRead(t, row, number%5, bound)
			}
		}
	}
}

// P21.2: whatever bits, and codes of which one bit is another one.
func TestWhateverBits(t *testing.T) {
	x, errs := noise(5), make(map[api.Errno]int)
	try := func(row string, n, bound int) {
		_, e := asRead(t, row, n, bound)
		errs[e]++
	}
	for range 20000 {
		bound := x.anyBound()
		var row strings.Builder
		for range x.next(12) {
			row.WriteString(strings.Repeat(strconv.Itoa(x.next(2)), x.next(20)))
		}
		try(row.String(), x.next(9), bound)
		try("0"+digits(x.number(64), x.next(60)), x.next(5), bound)
		try("1"+"000"+digits(x.number(64), x.next(60)), x.next(5), bound)
		l := x.missed(1+x.next(20), bound)
		for _, code := range [][]byte{[]byte(evenCode(l, bound)), []byte(partedCode(l, 0))} {
			code[x.next(len(code))] ^= 1
			try(string(code), len(l), bound)
		}
	}
	for _, e := range []api.Errno{api.OK, api.ErrEnd, api.ErrCode, api.ErrBound} {
		if errs[e] < 500 {
			t.Error(errs)
		}
	}
}

// P21.4: lists one behind the other, in one writer, in as many bits as they cost.
func TestThereAndBack(t *testing.T) {
	x := noise(6)
	for range 200 {
		w := &bitio.Writer{}
		var lists [][]int
		var with []int
		for range 1 + x.next(8) {
			bound := x.anyBound()
			l := x.missed(x.next(100), bound)
			cost, _ := corr.Cost(l, bound)
			from := w.Len()
			if e := corr.Put(w, l, bound); e != api.OK || w.Len()-from != cost {
				t.Fatal(e, w.Len()-from, cost)
			}
			lists, with = append(lists, l), append(with, bound)
		}
		r := bitio.Read(w.Bytes())
		for i, want := range lists {
			l, e := corr.Get(r, len(want), with[i])
			if e != api.OK || !slices.Equal(l, want) {
				t.Fatal(l, e, want)
			}
		}
	}
}

// P21.1, P21.2, P21.4: as many numbers as there may be.
func TestLongLists(t *testing.T) {
	x := noise(7)
	for _, bound := range []int{0, 1, 20, 1 << 23, boundEnd} {
		for _, l := range [][]int{make([]int, longest), x.missed(longest, bound), slices.Repeat([]int{bound, -bound}, longest/2)} {
			puts(t, l, bound, model(l, bound))
			gets(t, evenCode(l, bound), bound, l)
			gets(t, partedCode(l, 6), bound, l)
		}
	}
}

// P21.3: the least bound, held, wherever the number stands that is furthest from 0.
func TestBound(t *testing.T) {
	if corr.Bound(nil) != 0 || corr.Bound([]int{}) != 0 || corr.Bound(make([]int, 9)) != 0 {
		t.Error("of nothing")
	}
	away := func(x int) int {
		far := new(big.Int).Abs(big.NewInt(int64(x)))
		if far.Cmp(big.NewInt(heldEnd)) > 0 {
			return heldEnd
		}
		return int(far.Int64())
	}
	x := noise(8)
	for b := range 63 {
		for _, y := range []int{1 << b, -1 << b, 1<<b - 1, 1 - 1<<b, 1<<b + 1, -1<<b - 1, math.MinInt, math.MinInt + 1, math.MaxInt} {
			for _, l := range [][]int{{y}, {y, 0}, {0, y}, {0, y, 0, -1}, {y, y}, {-y, y}} {
				kept, want := slices.Clone(l), 0
				for _, z := range l {
					want = max(want, away(z))
				}
				if got := corr.Bound(l); got != want || !slices.Equal(l, kept) {
					t.Fatalf("of %v: %d, not %d", kept, got, want)
				}
			}
		}
	}
	// As numbers go with it, and not with one less.
	for range 300 {
		l := x.missed(1+x.next(30), x.anyBound())
		bound := corr.Bound(l)
		if _, e := corr.Cost(l, bound); e != api.OK {
			t.Fatalf("of %v: %d, error %d", l, bound, e)
		}
		if _, e := corr.Cost(l, bound-1); bound > 0 && e != api.ErrBound {
			t.Fatalf("of %v: %d, and one less, too", l, bound)
		}
	}
}

// P21.1, P21.2: what is answered is new memory, and what is handed in is not kept.
func TestAnswersAreNew(t *testing.T) {
	x := noise(9)
	for _, bound := range []int{0, 3, 500} {
		l := x.missed(60, bound)
		kept := slices.Clone(l)
		for range 2 {
			w := &bitio.Writer{}
			e := corr.Put(w, l, bound)
			b := w.Bytes()
			got, getErr := corr.Get(bitio.Read(b), len(l), bound)
			if e != api.OK || getErr != api.OK || !slices.Equal(got, kept) || !bytes.Equal(b, packed(model(kept, bound))) {
				t.Fatal(got, e, getErr)
			}
			for i := range got {
				got[i] = 99
			}
			_ = append(got[:0], 98)
		}
		if !slices.Equal(l, kept) {
			t.Error("what was handed in is answered")
		}
	}
}
