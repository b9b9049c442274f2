package bitio_test

import (
	"bytes"
	"math"
	"strconv"
	"strings"
	"testing"

	"descant/api"
	"descant/bitio"
)

// noise is numbers that look like chance, and are the same ones at each run.
type noise uint64

func (x *noise) next(n int) int {
	*x = *x*6364136223846793005 + 1442695040888963407
	return int(*x >> 33 % noise(n))
}

// digits are the bits of v, as a text.
func digits(v uint, n int) string {
	s := strconv.FormatUint(uint64(v), 2)
	return (strings.Repeat("0", 64) + s)[len(s)+64-n:]
}

// packed is a text of bits as bytes, eight a byte, with bits 0 behind.
func packed(s string) []byte {
	s += strings.Repeat("0", (8-len(s)%8)%8)
	b := []byte{}
	for ; s != ""; s = s[8:] {
		v, _ := strconv.ParseUint(s[:8], 2, 8)
		b = append(b, byte(v))
	}
	return b
}

// has fails, if the writer has other bits than those of the text.
func has(t *testing.T, w *bitio.Writer, s string) {
	t.Helper()
	if w.Len() != len(s) || !bytes.Equal(w.Bytes(), packed(s)) {
		t.Fatalf("%d bits %x, not %d bits %x", w.Len(), w.Bytes(), len(s), packed(s))
	}
}

// stands fails, if the reader is elsewhere.
func stands(t *testing.T, r *bitio.Reader, at, left int) {
	t.Helper()
	if r.At() != at || r.Left() != left {
		t.Fatalf("at %d, %d left, not %d, %d", r.At(), r.Left(), at, left)
	}
}

func is(t *testing.T, got, want api.Errno) {
	t.Helper()
	if got != want {
		t.Fatalf("error %d, not %d", got, want)
	}
}

// P2.1, and the chapter's example.
func TestExample(t *testing.T) {
	w := &bitio.Writer{}
	has(t, w, "")
	is(t, w.Put(5, 3), api.OK)
	is(t, w.Ones(2), api.OK)
	is(t, w.Zeros(1), api.OK)
	is(t, w.Put(1, 4), api.OK)
	has(t, w, "1011100001")
	if string(w.Bytes()) != "\xB8\x40" {
		t.Error(w.Bytes())
	}
}

// P2.1: numbers of each width, at each bit of a byte.
func TestPut(t *testing.T) {
	for ahead := range 8 {
		for n := range 65 {
			most := uint(1)<<n - 1
			for _, v := range []uint{0, most, most / 3, most - most/5, most & 0x0123456789ABCDEF} {
				w := &bitio.Writer{}
				is(t, w.Put(1<<ahead-1, ahead), api.OK)
				is(t, w.Put(v, n), api.OK)
				is(t, w.Put(2, 2), api.OK)
				has(t, w, strings.Repeat("1", ahead)+digits(v, n)+"10")
			}
		}
	}
}

// P2.1: what is refused leaves the writer as it is.
func TestPutRefuses(t *testing.T) {
	w := &bitio.Writer{}
	w.Put(5, 3)
	for _, n := range []int{math.MinInt, -64, -1, 65, 66, 128, math.MaxInt} {
		is(t, w.Put(0, n), api.ErrArg)
		is(t, w.Put(math.MaxUint, n), api.ErrArg)
	}
	for n := range 64 {
		is(t, w.Put(1<<n, n), api.ErrRange)
		is(t, w.Put(math.MaxUint, n), api.ErrRange)
	}
	has(t, w, "101")
	var none *bitio.Writer
	is(t, none.Put(0, 1), api.ErrNil)
	is(t, none.Put(9, -1), api.ErrNil)
	is(t, none.Put(9, 1), api.ErrNil)
}

// P2.1
func TestOnesZeros(t *testing.T) {
	for ahead := range 9 {
		for _, n := range []int{0, 1, 2, 7, 8, 9, 15, 16, 17, 63, 64, 65, 1000} {
			w := &bitio.Writer{}
			w.Put(1, ahead+1)
			is(t, w.Ones(n), api.OK)
			is(t, w.Zeros(n), api.OK)
			is(t, w.Ones(1), api.OK)
			has(t, w, strings.Repeat("0", ahead)+"1"+strings.Repeat("1", n)+strings.Repeat("0", n)+"1")
		}
	}
}

// P2.1: as many as may be, and one more.
func TestOnesZerosLong(t *testing.T) {
	const longest = 1 << 20
	w := &bitio.Writer{}
	w.Put(0, 1)
	for _, write := range []func(int) api.Errno{w.Ones, w.Zeros} {
		is(t, write(longest+1), api.ErrLong)
		is(t, write(math.MaxInt), api.ErrLong)
		is(t, write(-1), api.ErrArg)
		is(t, write(math.MinInt), api.ErrArg)
	}
	has(t, w, "0")
	is(t, w.Ones(longest), api.OK)
	is(t, w.Zeros(longest), api.OK)
	has(t, w, "0"+strings.Repeat("1", longest)+strings.Repeat("0", longest))
	var none *bitio.Writer
	for _, n := range []int{-1, 0, longest + 1} {
		is(t, none.Ones(n), api.ErrNil)
		is(t, none.Zeros(n), api.ErrNil)
	}
}

// P2.2
func TestWriterAlign(t *testing.T) {
	for n := range 20 {
		w := &bitio.Writer{}
		w.Ones(n)
		w.Align()
		want := strings.Repeat("1", n) + strings.Repeat("0", (8-n%8)%8)
		has(t, w, want)
		w.Align()
		has(t, w, want)
		w.Put(1, 1)
		has(t, w, want+"1")
	}
}

// P2.2, P2.6: pieces that are added are as if they had been put one behind the other.
func TestAdd(t *testing.T) {
	const pattern = 0xB5D0C3A7
	for n := range 33 {
		for m := range 33 {
			first, second := digits(pattern, 32)[:n], digits(pattern, 32)[:m]
			w, o := &bitio.Writer{}, &bitio.Writer{}
			is(t, w.Put(pattern>>(32-n), n), api.OK)
			is(t, o.Put(pattern>>(32-m), m), api.OK)
			is(t, w.Add(o), api.OK)
			has(t, w, first+second)
			has(t, o, second)
			o.Put(1, 1)
			w.Put(2, 2)
			has(t, w, first+second+"10")
			has(t, o, second+"1")
		}
	}
}

// P2.2: a writer that is added to itself has its bits twice.
func TestAddItself(t *testing.T) {
	for n := range 40 {
		w, s := &bitio.Writer{}, strings.Repeat("10110", n)[:4*n]
		for _, c := range s {
			w.Put(uint(c-'0'), 1)
		}
		for range 4 {
			is(t, w.Add(w), api.OK)
			s += s
			has(t, w, s)
		}
	}
}

// P2.2
func TestAddNil(t *testing.T) {
	w := &bitio.Writer{}
	w.Put(5, 3)
	var none *bitio.Writer
	is(t, w.Add(none), api.ErrNil)
	is(t, none.Add(w), api.ErrNil)
	is(t, none.Add(none), api.ErrNil)
	has(t, w, "101")
}

// P2.2: of no writer there is nothing.
func TestNoWriter(t *testing.T) {
	var none *bitio.Writer
	none.Align()
	if none.Len() != 0 || len(none.Bytes()) != 0 {
		t.Error(none.Len(), none.Bytes())
	}
}

// P2.2: the bytes are new ones at each call: what is done to them does not reach the writer, nor the other way round.
func TestBytesAreCopied(t *testing.T) {
	for _, n := range []int{8, 13, 16, 24} {
		w := &bitio.Writer{}
		w.Ones(n)
		b := w.Bytes()
		clear(b[:cap(b)])
		has(t, w, strings.Repeat("1", n))
		w.Ones(30)
		has(t, w, strings.Repeat("1", n+30))
		if !bytes.Equal(b, make([]byte, len(b))) {
			t.Fatal("bytes that were handed out were written", b)
		}
	}
}

// P2.3: numbers of each width, from each bit of a byte on, also the last ones.
func TestGet(t *testing.T) {
	b := []byte{0x9C, 0x3F, 0x05, 0xE1, 0x7A, 0x00, 0xFF, 0x42, 0xB6}
	s := ""
	for _, x := range b {
		s += digits(uint(x), 8)
	}
	for at := range len(s) + 1 {
		for n := range 65 {
			r := bitio.Read(b)
			for range at {
				r.Get(1)
			}
			v, e := r.Get(n)
			if at+n > len(s) {
				is(t, e, api.ErrEnd)
				stands(t, r, at, len(s)-at)
				if v != 0 {
					t.Fatal("a number with an error", v)
				}
				continue
			}
			is(t, e, api.OK)
			stands(t, r, at+n, len(s)-at-n)
			if digits(v, 64) != strings.Repeat("0", 64-n)+s[at:at+n] {
				t.Fatalf("%d bits at %d: %b, not %s", n, at, v, s[at:at+n])
			}
		}
	}
}

// P2.3: a width that may not be goes ahead of bits that are missing.
func TestGetRefuses(t *testing.T) {
	for _, b := range [][]byte{nil, {0xFF}, bytes.Repeat([]byte{0xFF}, 20)} {
		r := bitio.Read(b)
		for _, n := range []int{math.MinInt, -1, 65, 66, math.MaxInt} {
			v, e := r.Get(n)
			is(t, e, api.ErrArg)
			if v != 0 {
				t.Error(v)
			}
		}
		stands(t, r, 0, 8*len(b))
	}
}

// P2.3: bits 1 up to a bit 0, up to most, and up to the end.
func TestReaderOnes(t *testing.T) {
	for _, c := range []struct {
		bytes    []byte
		at, most int
		n, to    int
		e        api.Errno
	}{
		{[]byte{0xE0}, 0, 9, 3, 4, api.OK},
		{[]byte{0xE0}, 0, 4, 3, 4, api.OK},
		{[]byte{0xE0}, 0, 3, 3, 3, api.OK}, // the bit 0 stays
		{[]byte{0xE0}, 0, 2, 2, 2, api.OK},
		{[]byte{0xE0}, 0, 0, 0, 0, api.OK},
		{[]byte{0xE0}, 3, 5, 0, 4, api.OK},
		{[]byte{0xE0}, 7, math.MaxInt, 0, 8, api.OK}, // the bit 0 is the last one
		{[]byte{0xE0}, 8, 0, 0, 8, api.OK},
		{[]byte{0xE0}, 8, 1, 0, 8, api.ErrEnd},
		{[]byte{0xFF, 0xFE}, 0, 15, 15, 15, api.OK},
		{[]byte{0xFF, 0xFE}, 0, 16, 15, 16, api.OK},
		{[]byte{0x0F, 0xFF}, 4, 12, 12, 16, api.OK},
		{[]byte{0x0F, 0xFF}, 4, 13, 0, 4, api.ErrEnd},
		{[]byte{0x0F, 0xFF}, 4, math.MaxInt, 0, 4, api.ErrEnd},
		{[]byte{0x0F, 0xFF}, 4, -1, 0, 4, api.ErrArg},
		{[]byte{0x0F, 0xFF}, 16, math.MinInt, 0, 16, api.ErrArg},
		{nil, 0, 0, 0, 0, api.OK},
		{nil, 0, 1, 0, 0, api.ErrEnd},
	} {
		r := bitio.Read(c.bytes)
		r.Get(c.at)
		n, e := r.Ones(c.most)
		if n != c.n || e != c.e {
			t.Errorf("%x at %d, Ones(%d): %d, %d, not %d, %d", c.bytes, c.at, c.most, n, e, c.n, c.e)
		}
		stands(t, r, c.to, 8*len(c.bytes)-c.to)
	}
}

// P2.4
func TestReaderAlign(t *testing.T) {
	for v := range 256 {
		for at := range 9 {
			r := bitio.Read([]byte{byte(v), 0xFF})
			r.Get(at)
			want, to := api.OK, 8
			switch {
			case at == 0:
				to = 0
			case v<<at&0xFF != 0:
				want, to = api.ErrBits, at
			}
			is(t, r.Align(), want)
			stands(t, r, to, 16-to)
		}
	}
	r := bitio.Read(nil)
	is(t, r.Align(), api.OK)
	stands(t, r, 0, 0)
}

// P2.3, P2.4: of no reader there is nothing.
func TestNoReader(t *testing.T) {
	var none *bitio.Reader
	for _, n := range []int{-1, 0, 1, 65} {
		v, e := none.Get(n)
		is(t, e, api.ErrNil)
		m, e := none.Ones(n)
		is(t, e, api.ErrNil)
		if v != 0 || m != 0 {
			t.Error(v, m)
		}
	}
	is(t, none.Align(), api.ErrNil)
	stands(t, none, 0, 0)
}

// A reader that Read did not make has no bits.
func TestZeroReader(t *testing.T) {
	r := &bitio.Reader{}
	v, e := r.Get(0)
	if v != 0 || e != api.OK {
		t.Error(v, e)
	}
	_, e = r.Get(1)
	is(t, e, api.ErrEnd)
	is(t, r.Align(), api.OK)
	stands(t, r, 0, 0)
}

// What is handed in is not kept, nor changed: a reader reads what the bytes were.
func TestReadKeepsNothing(t *testing.T) {
	b := []byte{0xA5, 0x3C}
	r := bitio.Read(b)
	r.Get(4)
	b[0], b[1] = 0, 0
	if v, e := r.Get(12); v != 0x53C || e != api.OK {
		t.Errorf("%x, %d", v, e)
	}
	if b[0] != 0 || b[1] != 0 {
		t.Error(b)
	}
}

// piece is what one call wrote, and how it is read again.
type piece struct {
	call, n int
	v       uint
}

// write writes one piece, and answers the bits that the writer should have now.
func write(w *bitio.Writer, s string, p piece) string {
	switch p.call {
	case 0:
		w.Put(p.v, p.n)
		return s + digits(p.v, p.n)
	case 1:
		w.Ones(p.n)
		w.Zeros(1)
		return s + strings.Repeat("1", p.n) + "0"
	case 2:
		w.Zeros(p.n)
		return s + strings.Repeat("0", p.n)
	case 3:
		o := &bitio.Writer{}
		o.Put(p.v, p.n)
		w.Add(o)
		return s + digits(p.v, p.n)
	}
	w.Align()
	return s + strings.Repeat("0", (8-len(s)%8)%8)
}

// read reads one piece, and tells whether it is the one that was written.
func read(r *bitio.Reader, p piece) bool {
	switch p.call {
	case 0, 3:
		v, e := r.Get(p.n)
		return v == p.v && e == api.OK
	case 1:
		n, e := r.Ones(p.n + 1)
		return n == p.n && e == api.OK
	case 2:
		v, e := r.Get(p.n)
		return v == 0 && e == api.OK
	}
	return r.Align() == api.OK && r.At()%8 == 0
}

// P2.5: what was put is got, piece by piece, and bytes are as long as the bits ask.
func TestPutIsGot(t *testing.T) {
	x := noise(1)
	for range 300 {
		w, s := &bitio.Writer{}, ""
		var pieces []piece
		for range x.next(60) {
			p := piece{call: x.next(5), n: x.next(65)}
			p.v = (uint(x.next(1<<31))<<33 | uint(x.next(1<<31))<<2) >> (64 - p.n)
			s = write(w, s, p)
			pieces = append(pieces, p)
		}
		has(t, w, s)
		if more := 8*len(w.Bytes()) - w.Len(); more < 0 || more > 7 {
			t.Fatal(more, "bits more")
		}
		r := bitio.Read(w.Bytes())
		for i, p := range pieces {
			if !read(r, p) {
				t.Fatal("piece", i, p)
			}
		}
		stands(t, r, len(s), 8*len(w.Bytes())-len(s))
		is(t, r.Align(), api.OK)
		stands(t, r, 8*len(w.Bytes()), 0)
	}
}
