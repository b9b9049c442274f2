package field_test

import (
	"bytes"
	"math"
	"math/big"
	"strings"
	"testing"

	"descant/api"
	"descant/field"
)

// noise is numbers that look like chance, and are the same ones at each run.
type noise uint64

func (x *noise) next(n int) int {
	*x = *x*6364136223846793005 + 1442695040888963407
	return int(*x >> 33 % noise(n))
}

func (x *noise) wide() uint {
	return uint(x.next(1<<31))<<33 ^ uint(x.next(1<<31))<<16 ^ uint(x.next(1<<31))
}

// wrongWidths are those that no field has.
func wrongWidths() []int {
	return []int{math.MinInt, -8, -1, 0, 9, 10, 16, 64, 1 << 61, math.MaxInt}
}

func power(n int) *big.Int { return new(big.Int).Lsh(big.NewInt(1), uint(n)) }

// laid is a number of any size as n bytes, the lowest one first.
func laid(v *big.Int, n int) []byte {
	b := make([]byte, n)
	rest, low := new(big.Int).Set(v), new(big.Int)
	for i := range b {
		rest.DivMod(rest, big.NewInt(256), low)
		b[i] = byte(low.Int64())
	}
	return b
}

// holds fails, if the maker has other bytes.
func holds(t *testing.T, m *field.Maker, want ...byte) {
	t.Helper()
	b, e := m.Bytes()
	if e != api.OK || !bytes.Equal(b, want) || m.Len() != len(want) {
		t.Fatalf("%v (error %d, %d long), not %v", b, e, m.Len(), want)
	}
}

// refuses fails, if the maker has another error, or bytes with it.
func refuses(t *testing.T, m *field.Maker, want api.Errno) {
	t.Helper()
	b, e := m.Bytes()
	if e != want || len(b) != 0 || m.Len() != 0 {
		t.Fatalf("%v (error %d, %d long), not error %d", b, e, m.Len(), want)
	}
}

// stands fails, if the taker is elsewhere, or has an error.
func stands(t *testing.T, k *field.Taker, at, left int) {
	t.Helper()
	if k.At() != at || k.Left() != left || k.Err() != api.OK {
		t.Fatalf("at %d, %d left, error %d, not %d, %d, 0", k.At(), k.Left(), k.Err(), at, left)
	}
}

// failed fails, if the taker has another error, or if anything more is taken of it.
func failed(t *testing.T, k *field.Taker, at int, want api.Errno) {
	t.Helper()
	for range 2 {
		if k.At() != at || k.Left() != 0 || k.Err() != want {
			t.Fatalf("at %d, %d left, error %d, not %d, 0, %d", k.At(), k.Left(), k.Err(), at, want)
		}
		if k.U(1) != 0 || k.I(1) != 0 || k.U(9) != 0 || k.I(0) != 0 || len(k.Raw(0)) != 0 || len(k.Raw(1)) != 0 || len(k.Raw(-1)) != 0 {
			t.Fatal("taken behind an error")
		}
		if k.Text(1) != "" || k.Text(9) != "" || k.Is() || k.Is(0) {
			t.Fatal("taken behind an error")
		}
	}
}

// The chapter's examples.
func TestExamples(t *testing.T) {
	m := &field.Maker{}
	m.U(258, 2)
	holds(t, m, 2, 1)
	m = &field.Maker{}
	m.I(-1, 3)
	holds(t, m, 255, 255, 255)
	m = &field.Maker{}
	m.Text("ab", 1)
	holds(t, m, 2, 97, 98)
}

// P4.1: the least and the greatest numbers of each width, those between, and those beyond.
func TestMakerU(t *testing.T) {
	for n := 1; n <= 8; n++ {
		most := uint(math.MaxUint) >> (64 - 8*n)
		for _, v := range []uint{0, 1, 255, most / 2, most/2 + 1, most - 1, most, most & 0x0123456789ABCDEF} {
			m := &field.Maker{}
			m.Raw(7)
			m.U(v, n)
			m.Raw(8)
			want := append([]byte{7}, laid(new(big.Int).SetUint64(uint64(v)), n)...)
			holds(t, m, append(want, 8)...)
		}
		if n == 8 {
			continue
		}
		for _, v := range []uint{most + 1, most + 2, 2*most + 1, math.MaxUint, 1 << 63} {
			m := &field.Maker{}
			m.Raw(7)
			m.U(v, n)
			refuses(t, m, api.ErrRange)
		}
	}
}

// P4.1: the same of signed fields.
func TestMakerI(t *testing.T) {
	for n := 1; n <= 8; n++ {
		least, most := math.MinInt>>(64-8*n), math.MaxInt>>(64-8*n)
		for _, v := range []int{least, least + 1, least / 3, -2, -1, 0, 1, 127, most / 3, most - 1, most} {
			m := &field.Maker{}
			m.Raw(7)
			m.I(v, n)
			m.Raw(8)
			x := big.NewInt(int64(v))
			if v < 0 {
				x.Add(x, power(8*n))
			}
			holds(t, m, append(append([]byte{7}, laid(x, n)...), 8)...)
		}
		if n == 8 {
			continue
		}
		for _, v := range []int{least - 1, most + 1, 2*most + 1, 2 * least, math.MinInt, math.MaxInt} {
			m := &field.Maker{}
			m.Raw(7)
			m.I(v, n)
			refuses(t, m, api.ErrRange)
		}
	}
}

// P4.1: a width that no field has goes ahead of a number that does not fit.
func TestMakerWidths(t *testing.T) {
	for _, n := range wrongWidths() {
		for _, v := range []uint{0, 5, math.MaxUint} {
			m := &field.Maker{}
			m.Raw(1, 2)
			m.U(v, n)
			refuses(t, m, api.ErrArg)
			m = &field.Maker{}
			m.I(int(v), n)
			refuses(t, m, api.ErrArg)
		}
		for _, s := range []string{"", "ab", strings.Repeat("c", 70000)} {
			m := &field.Maker{}
			m.Raw(1, 2)
			m.Text(s, n)
			refuses(t, m, api.ErrArg)
		}
	}
}

// P4.1
func TestMakerRaw(t *testing.T) {
	m := &field.Maker{}
	m.Raw()
	holds(t, m)
	m.Raw(1)
	m.Raw(2, 3)
	m.Raw()
	own := []byte{4, 5}
	m.Raw(own...)
	own[0] = 9
	holds(t, m, 1, 2, 3, 4, 5)
	if own[1] != 5 {
		t.Error("what was handed in is changed")
	}
}

// P4.1: texts of no bytes, of any bytes, and as long as their lengths' fields allow.
func TestMakerText(t *testing.T) {
	m := &field.Maker{}
	m.Text("", 1)
	m.Text("", 8)
	m.Text("\x00\xFFé", 3)
	holds(t, m, 0, 0, 0, 0, 0, 0, 0, 0, 0, 4, 0, 0, 0, 255, 0xC3, 0xA9)
	for _, c := range []struct {
		long, n int
		e       api.Errno
	}{{255, 1, api.OK}, {256, 1, api.ErrRange}, {65535, 2, api.OK}, {65536, 2, api.ErrRange}, {65536, 3, api.OK}, {1 << 24, 3, api.ErrRange}, {1<<24 - 1, 3, api.OK}, {300, 8, api.OK}} {
		m, s := &field.Maker{}, strings.Repeat("x", c.long)
		m.Raw(1)
		m.Text(s, c.n)
		if c.e != api.OK {
			refuses(t, m, c.e)
			continue
		}
		holds(t, m, append(append([]byte{1}, laid(big.NewInt(int64(c.long)), c.n)...), s...)...)
	}
}

// P4.1: the first error stays, and behind it nothing is laid.
func TestMakerFirstError(t *testing.T) {
	for _, c := range []struct {
		fault func(m *field.Maker)
		e     api.Errno
	}{
		{func(m *field.Maker) { m.U(256, 1) }, api.ErrRange},
		{func(m *field.Maker) { m.I(-129, 1) }, api.ErrRange},
		{func(m *field.Maker) { m.Text(strings.Repeat("x", 256), 1) }, api.ErrRange},
		{func(m *field.Maker) { m.U(0, 0) }, api.ErrArg},
		{func(m *field.Maker) { m.I(0, 9) }, api.ErrArg},
		{func(m *field.Maker) { m.Text("", -1) }, api.ErrArg},
	} {
		m := &field.Maker{}
		m.U(5, 2)
		c.fault(m)
		refuses(t, m, c.e)
		m.U(1, 1)
		m.I(1, 1)
		m.Raw(1, 2)
		m.Text("a", 1)
		refuses(t, m, c.e)
		m.U(256, 1)
		m.I(0, 0)
		m.Text("", 9)
		m.U(0, 9)
		m.I(1<<20, 2)
		refuses(t, m, c.e)
	}
}

// P4.1: of no maker.
func TestNoMaker(t *testing.T) {
	var none *field.Maker
	none.U(1, 1)
	none.U(256, 1)
	none.U(1, 0)
	none.I(1, 1)
	none.I(1, 9)
	none.Raw()
	none.Raw(1)
	none.Text("a", 1)
	none.Text("a", 0)
	refuses(t, none, api.ErrNil)
	holds(t, &field.Maker{})
}

// P4.1: the bytes are new ones at each call: what is done to them does not reach the maker, nor the other way round.
func TestMakerBytesAreCopied(t *testing.T) {
	m := &field.Maker{}
	for n := range 40 {
		m.Raw(byte(n))
		b, _ := m.Bytes()
		b = b[:cap(b)]
		clear(b)
		m.Raw(byte(n))
		if !bytes.Equal(b, make([]byte, len(b))) {
			t.Fatal("bytes that were handed out were written", b)
		}
		if b, _ := m.Bytes(); b[2*n] != byte(n) || b[2*n+1] != byte(n) {
			t.Fatal("bytes that were handed out were kept", b)
		}
	}
}

// P4.2: fields of each width, of all bytes 0 and 255 and of others.
func TestTakerU(t *testing.T) {
	for n := 1; n <= 8; n++ {
		for _, b := range [][]byte{make([]byte, 10), bytes.Repeat([]byte{255}, 10), {9, 1, 2, 3, 4, 5, 6, 7, 8, 9}, {9, 0x80, 0x81, 0xFE, 0x7F, 0xAA, 0x55, 0xC0, 0x9D, 9}} {
			want := new(big.Int)
			for i := n; i >= 1; i-- {
				want.Lsh(want, 8).Add(want, big.NewInt(int64(b[i])))
			}
			k := field.Take(b)
			k.U(1)
			if v := k.U(n); uint64(v) != want.Uint64() {
				t.Errorf("%v, %d bytes: %d, not %s", b, n, v, want)
			}
			stands(t, k, 1+n, 9-n)

			if want.Cmp(power(8*n-1)) >= 0 {
				want.Sub(want, power(8*n))
			}
			k = field.Take(b)
			k.U(1)
			if v := k.I(n); int64(v) != want.Int64() {
				t.Errorf("%v, signed, %d bytes: %d, not %s", b, n, v, want)
			}
			stands(t, k, 1+n, 9-n)
		}
	}
}

// P4.2: widths that no field has, and bytes that are missing; the width goes ahead.
func TestTakerRefuses(t *testing.T) {
	takes := []func(k *field.Taker, n int) bool{
		func(k *field.Taker, n int) bool { return k.U(n) == 0 },
		func(k *field.Taker, n int) bool { return k.I(n) == 0 },
		func(k *field.Taker, n int) bool { return k.Text(n) == "" },
	}
	for i, take := range takes {
		for _, b := range [][]byte{nil, {255}, bytes.Repeat([]byte{255}, 30)} {
			for _, n := range wrongWidths() {
				k := field.Take(b)
				if !take(k, n) {
					t.Error(i, n, "something with an error")
				}
				failed(t, k, 0, api.ErrArg)
			}
		}
		for n := 1; n <= 8; n++ {
			for there := range n {
				k := field.Take(bytes.Repeat([]byte{255}, 2+there))
				k.Raw(2)
				if !take(k, n) {
					t.Error(i, n, "something with an error")
				}
				failed(t, k, 2, api.ErrEnd)
			}
		}
	}
}

// P4.2
func TestTakerRaw(t *testing.T) {
	k := field.Take([]byte{1, 2, 3, 4})
	for _, c := range []struct {
		n    int
		want string
	}{{0, ""}, {1, "\x01"}, {0, ""}, {2, "\x02\x03"}, {1, "\x04"}, {0, ""}} {
		at := k.At()
		if b := k.Raw(c.n); string(b) != c.want {
			t.Error(b, c)
		}
		stands(t, k, at+c.n, 4-at-c.n)
	}
	for _, n := range []int{3, 4, 1 << 40, math.MaxInt} {
		k := field.Take([]byte{1, 2, 3, 4})
		k.Raw(2)
		if len(k.Raw(n)) != 0 {
			t.Error("bytes with an error")
		}
		failed(t, k, 2, api.ErrEnd)
	}
	for _, n := range []int{-1, math.MinInt} {
		k := field.Take([]byte{1, 2, 3, 4})
		k.Raw(2)
		if len(k.Raw(n)) != 0 {
			t.Error("bytes with an error")
		}
		failed(t, k, 2, api.ErrArg)
	}
}

// P4.2: texts that are there; a length that is beyond what follows, also one that is no int, takes nothing.
func TestTakerText(t *testing.T) {
	k := field.Take([]byte{9, 0, 2, 97, 98, 3, 0, 0xC3, 0xA9, 0, 9})
	k.U(1)
	for _, c := range []struct {
		n, at int
		want  string
	}{{1, 2, ""}, {1, 5, "ab"}, {2, 10, "\xC3\xA9\x00"}} {
		if s := k.Text(c.n); s != c.want {
			t.Errorf("%q, not %q", s, c.want)
		}
		stands(t, k, c.at, 11-c.at)
	}
	for _, b := range [][]byte{
		{9, 1}, {9, 3, 97, 98}, {9, 255, 97, 98},
	} {
		k := field.Take(b)
		k.U(1)
		if k.Text(1) != "" {
			t.Error("a text with an error")
		}
		failed(t, k, 1, api.ErrEnd)
	}
	for _, top := range []byte{0x7F, 0x80, 0xFF} {
		k := field.Take([]byte{255, 255, 255, 255, 255, 255, 255, top, 97, 98})
		if k.Text(8) != "" {
			t.Error("a text with an error")
		}
		failed(t, k, 0, api.ErrEnd)
	}
}

// P4.2: it takes as many bytes as these, whether they are these or not.
func TestTakerIs(t *testing.T) {
	for _, c := range []struct {
		asked []byte
		is    bool
	}{
		{nil, true}, {[]byte{1}, true}, {[]byte{2}, false}, {[]byte{1, 2, 3}, true}, {[]byte{1, 2, 4}, false}, {[]byte{0, 2, 3}, false}, {[]byte{1, 0, 3}, false},
	} {
		k := field.Take([]byte{9, 1, 2, 3})
		k.U(1)
		if k.Is(c.asked...) != c.is {
			t.Error(c)
		}
		stands(t, k, 1+len(c.asked), 3-len(c.asked))
	}
	k := field.Take([]byte{1, 2})
	k.U(1)
	if k.Is(2, 3) {
		t.Error("bytes that are not there")
	}
	failed(t, k, 1, api.ErrEnd)
	k = field.Take(nil)
	if !k.Is() || k.Is(0) {
		t.Error("of no bytes")
	}
	failed(t, k, 0, api.ErrEnd)
}

// P4.2: the first error stays, also where another one would be met.
func TestTakerFirstError(t *testing.T) {
	k := field.Take([]byte{1, 2, 3})
	k.U(2)
	k.I(0)
	k.U(2)
	failed(t, k, 2, api.ErrArg)
	k = field.Take([]byte{1, 2, 3})
	k.U(1)
	k.U(3)
	k.U(9)
	failed(t, k, 1, api.ErrEnd)
	k = field.Take([]byte{1, 2, 3})
	k.Text(1)
	k.Text(1)
	failed(t, k, 2, api.ErrEnd)
}

// P4.2: of no taker, and of one that Take did not make, which has no bytes.
func TestNoTaker(t *testing.T) {
	var none *field.Taker
	failed(t, none, 0, api.ErrNil)
	stands(t, &field.Taker{}, 0, 0)
	stands(t, field.Take(nil), 0, 0)
	stands(t, field.Take([]byte{}), 0, 0)
	k := &field.Taker{}
	k.U(1)
	failed(t, k, 0, api.ErrEnd)
}

// What is handed in is not kept, nor changed; what is taken is new memory.
func TestTakeKeepsNothing(t *testing.T) {
	b := []byte{1, 2, 3, 4, 5}
	k := field.Take(b)
	clear(b)
	raw := k.Raw(2)
	if string(raw) != "\x01\x02" {
		t.Error(raw)
	}
	raw = raw[:cap(raw)]
	clear(raw)
	if k.U(3) != 0x050403 || !bytes.Equal(b, make([]byte, 5)) || !bytes.Equal(raw, make([]byte, len(raw))) {
		t.Error("shared")
	}
}

// piece is what one call lays, and how it is taken again.
type piece struct {
	call, n int
	v       uint
	raw     []byte
}

// some is a piece that may be laid.
func some(x *noise) piece {
	p := piece{call: x.next(5), n: 1 + x.next(8), raw: make([]byte, x.next(12))}
	p.v = x.wide() >> (64 - 8*p.n)
	for i := range p.raw {
		p.raw[i] = byte(x.next(256))
	}
	return p
}

// signed is the piece's number as one that a signed field of its width has.
func (p piece) signed() int { return int(p.v<<(64-8*p.n)) >> (64 - 8*p.n) }

func (p piece) lay(m *field.Maker) {
	switch p.call {
	case 0:
		m.U(p.v, p.n)
	case 1:
		m.I(p.signed(), p.n)
	case 2:
		m.Text(string(p.raw), p.n)
	default:
		m.Raw(p.raw...)
	}
}

// take takes the piece, and tells whether it is the one that was laid.
func (p piece) take(k *field.Taker) bool {
	switch p.call {
	case 0:
		return k.U(p.n) == p.v
	case 1:
		return k.I(p.n) == p.signed()
	case 2:
		return k.Text(p.n) == string(p.raw)
	case 3:
		return bytes.Equal(k.Raw(len(p.raw)), p.raw)
	}
	return k.Is(p.raw...)
}

// row is pieces, and the bytes that they make.
func row(t *testing.T, x *noise) ([]piece, []byte) {
	t.Helper()
	m, l := &field.Maker{}, []piece{}
	for range x.next(30) {
		p := some(x)
		p.lay(m)
		l = append(l, p)
	}
	b, e := m.Bytes()
	if e != api.OK || m.Len() != len(b) {
		t.Fatal(e, m.Len(), len(b))
	}
	return l, b
}

// P4.3: what is laid is taken, field by field.
func TestLaidIsTaken(t *testing.T) {
	x := noise(1)
	for range 500 {
		l, b := row(t, &x)
		k := field.Take(b)
		for i, p := range l {
			if !p.take(k) {
				t.Fatal("piece", i, p)
			}
		}
		stands(t, k, len(b), 0)
	}
}

// P4.4: of bytes that are cut off something is missing.
func TestCutOff(t *testing.T) {
	x := noise(2)
	for range 100 {
		l, b := row(t, &x)
		for cut := range b {
			k := field.Take(b[:cut])
			at := 0
			for _, p := range l {
				if k.Err() == api.OK {
					at = k.At()
				}
				p.take(k)
			}
			failed(t, k, at, api.ErrEnd)
		}
	}
}
