package head_test

import (
	"bytes"
	"encoding/binary"
	"hash/crc32"
	"math"
	"slices"
	"testing"

	"descant/api"
	"descant/crc"
	"descant/head"
)

const (
	headLong = 32          // bytes of a head
	sumLong  = 4           // bytes of a sum
	ahead    = 28          // bytes of a head that stand ahead of its sum
	longest  = 1 << 24     // bytes of a payload, at the most
	mostStep = 1 << 31     // the greatest step
	mostAt   = 1<<32 - 1   // the greatest index
	someLink = 0xCBF43926  // a sum
	someSum  = 0x860F061A  // another one
	linkEnd  = 0xFFFFFFFF  // the greatest sum
	beyond   = longest + 1 // bytes of too long a payload
)

// noise is numbers that look like chance, and are the same ones at each run.
type noise uint64

func (x *noise) next(n int) int {
	*x = *x*6364136223846793005 + 1442695040888963407
	return int(*x >> 33 % noise(n))
}

// upTo is a number from 0 to n, of all sizes, up to 2^32.
func (x *noise) upTo(n int) int {
	v := x.next(1<<31)<<31 | x.next(1<<31)
	switch x.next(8) {
	case 0:
		return 0
	case 1:
		return n
	case 2:
		return v % 300 % (n + 1)
	}
	return v >> x.next(40) % (n + 1)
}

func (x *noise) bytes(n int) []byte {
	b := make([]byte, n)
	for i := range b {
		b[i] = byte(x.next(256))
	}
	return b
}

// head is a right head of any kind.
func (x *noise) head() api.Head {
	h := api.Head{Kind: 1 + x.next(3), Index: x.upTo(mostAt), Length: 1 + x.upTo(api.MaxBlock-1), Step: 1, Size: x.upTo(longest)}
	if h.Kind != api.Lossless {
		h.Step += x.upTo(mostStep - 1)
		h.Bound = x.upTo(h.Step / 2)
	}
	switch h.Kind {
	case api.Base:
		h.Last = x.next(2) == 1
	case api.Correction:
		h.Link = uint32(x.upTo(mostAt))
	}
	return h
}

// plain are right heads of each kind.
func plain() []api.Head {
	return []api.Head{
		{Kind: api.Base, Index: 2, Length: 4096, Step: 9, Bound: 4, Size: 5},
		{Kind: api.Base, Index: 2, Length: 4096, Step: 9, Bound: 4, Size: 5, Last: true},
		{Kind: api.Correction, Index: 2, Length: 4096, Step: 9, Bound: 4, Size: 5, Link: someLink},
		{Kind: api.Lossless, Index: 2, Length: 4096, Step: 1, Size: 5},
	}
}

// rightOf tells whether a head is right, as the words say it.
func rightOf(h api.Head) bool {
	if h.Kind != api.Base && h.Kind != api.Correction && h.Kind != api.Lossless {
		return false
	}
	if h.Index < 0 || h.Index > 4294967295 || h.Length < 1 || h.Length > 65536 {
		return false
	}
	if h.Step < 1 || h.Step > 2147483648 || h.Bound < 0 || h.Size < 0 || h.Size > 16777216 {
		return false
	}
	half := h.Step / 2
	if h.Bound > half {
		return false
	}
	if h.Last && h.Kind != api.Base {
		return false
	}
	if h.Link != 0 && h.Kind != api.Correction {
		return false
	}
	return h.Kind != api.Lossless || h.Step == 1
}

// four is a field of four bytes.
func four(v uint32) []byte {
	return binary.LittleEndian.AppendUint32(nil, v)
}

// summed are bytes, and their sum behind them.
func summed(b []byte) []byte {
	return slices.Concat(b, four(crc32.ChecksumIEEE(b)))
}

// laid are a head's bytes, and others for the kind and for Last, as the words say it; also of heads that are not right.
func laid(kind, last byte, h api.Head) []byte {
	return summed(slices.Concat([]byte{0xDE, 0x5C, kind, last},
		four(uint32(h.Index)), four(uint32(h.Length)), four(uint32(h.Step)), four(uint32(h.Bound)), four(h.Link), four(uint32(h.Size))))
}

// bytesOf are a head's bytes.
func bytesOf(h api.Head) []byte {
	last := byte(0)
	if h.Last {
		last = 1
	}
	return laid(byte(h.Kind), last, h)
}

// blockOf is a block, and its sum.
func blockOf(h api.Head, payload []byte) ([]byte, uint32) {
	h.Size = len(payload)
	b := slices.Concat(bytesOf(h), payload)
	return summed(b), crc32.ChecksumIEEE(b)
}

// puts fails, if a right head has other bytes, or is not got of them, whatever stands behind them.
func puts(t *testing.T, h api.Head, want []byte) {
	t.Helper()
	table := crc.Make()
	b, e := head.Put(table, h)
	if e != api.OK || !bytes.Equal(b, want) {
		t.Fatalf("%+v: bytes % X, error %d, not % X", h, b, e, want)
	}
	if !head.Right(h) || head.Long(h) != headLong+h.Size+sumLong {
		t.Fatalf("%+v: right %t, %d bytes long", h, head.Right(h), head.Long(h))
	}
	for _, behind := range [][]byte{nil, {0}, {0xDE}, want, make([]byte, 100)} {
		got, e := head.Get(table, slices.Concat(want, behind))
		if e != api.OK || got != h {
			t.Fatalf("of % X: %+v, error %d, not %+v", want, got, e, h)
		}
	}
}

// putsNone fails, if a head that is not right has bytes, or is long, or a block is made with it.
func putsNone(t *testing.T, h api.Head) {
	t.Helper()
	table := crc.Make()
	if b, e := head.Put(table, h); e != api.ErrHead || len(b) > 0 {
		t.Fatalf("%+v: bytes % X, error %d", h, b, e)
	}
	if head.Right(h) || head.Long(h) != 0 {
		t.Fatalf("%+v: right %t, %d bytes long", h, head.Right(h), head.Long(h))
	}
	if b, e := head.Put(nil, h); e != api.ErrNil || len(b) > 0 {
		t.Fatalf("%+v, no table: bytes % X, error %d", h, b, e)
	}
}

// refuses fails, if a head is got of these bytes, or a block opened, or there is another error.
func refuses(t *testing.T, table *crc.Table, b []byte, want api.Errno) {
	t.Helper()
	if h, e := head.Get(table, b); e != want || h != (api.Head{}) {
		t.Fatalf("a head of % X: %+v, error %d, not %d", b[:min(len(b), 40)], h, e, want)
	}
	opensNone(t, table, b, want)
}

// opensNone fails, if a block is opened of these bytes, or there is another error.
func opensNone(t *testing.T, table *crc.Table, b []byte, want api.Errno) {
	t.Helper()
	h, payload, sum, e := head.Open(table, b)
	if e != want || h != (api.Head{}) || len(payload) > 0 || sum != 0 {
		t.Fatalf("a block of % X: %+v, % X, sum %#x, error %d, not %d", b[:min(len(b), 40)], h, payload, sum, e, want)
	}
}

// seals fails, if a block is another one, or is not opened as it was, whatever stands behind it.
func seals(t *testing.T, h api.Head, payload []byte) {
	t.Helper()
	table := crc.Make()
	want, wantSum := blockOf(h, payload)
	b, sum, e := head.Seal(table, h, payload)
	if e != api.OK || sum != wantSum || !bytes.Equal(b, want) {
		t.Fatalf("%+v, %d bytes: %d bytes, sum %#x, error %d", h, len(payload), len(b), sum, e)
	}
	h.Size = len(payload)
	if head.Long(h) != len(b) {
		t.Fatalf("%+v: %d bytes long, not %d", h, head.Long(h), len(b))
	}
	for _, behind := range [][]byte{nil, {0}, {0xDE, 0x5C}, make([]byte, 50)} {
		opens(t, slices.Concat(b, behind), h, payload, sum)
	}
}

// opens fails, if a block is opened as another one.
func opens(t *testing.T, b []byte, want api.Head, wantPayload []byte, wantSum uint32) {
	t.Helper()
	h, payload, sum, e := head.Open(crc.Make(), b)
	if e != api.OK || h != want || sum != wantSum || !bytes.Equal(payload, wantPayload) {
		t.Fatalf("%+v, %d bytes, sum %#x, error %d, not %+v, %d bytes, sum %#x", h, len(payload), sum, e, want, len(wantPayload), wantSum)
	}
}

// P22.1, P22.2, P22.3, and the chapter's example: heads by hand.
func TestByHand(t *testing.T) {
	for _, c := range []struct {
		h    api.Head
		want []byte
	}{
		{
			api.Head{Kind: api.Lossless, Length: 3, Step: 1, Size: 7},
			[]byte{
				0xDE, 0x5C, 0x03, 0x00,
				0x00, 0x00, 0x00, 0x00, 0x03, 0x00, 0x00, 0x00, 0x01, 0x00, 0x00, 0x00,
				0x00, 0x00, 0x00, 0x00, 0x00, 0x00, 0x00, 0x00, 0x07, 0x00, 0x00, 0x00,
				0xCA, 0x3D, 0xE8, 0x15,
			},
		},
		{
			api.Head{Kind: api.Base, Index: 0x01020304, Length: 65536, Step: mostStep, Bound: mostStep / 2, Last: true, Size: longest},
			[]byte{
				0xDE, 0x5C, 0x01, 0x01,
				0x04, 0x03, 0x02, 0x01, 0x00, 0x00, 0x01, 0x00, 0x00, 0x00, 0x00, 0x80,
				0x00, 0x00, 0x00, 0x40, 0x00, 0x00, 0x00, 0x00, 0x00, 0x00, 0x00, 0x01,
				0x52, 0x4F, 0xFB, 0x71,
			},
		},
		{
			api.Head{Kind: api.Correction, Index: mostAt, Length: 256, Step: 9, Bound: 4, Link: someLink, Size: 5},
			[]byte{
				0xDE, 0x5C, 0x02, 0x00,
				0xFF, 0xFF, 0xFF, 0xFF, 0x00, 0x01, 0x00, 0x00, 0x09, 0x00, 0x00, 0x00,
				0x04, 0x00, 0x00, 0x00, 0x26, 0x39, 0xF4, 0xCB, 0x05, 0x00, 0x00, 0x00,
				0x3E, 0x06, 0xB8, 0x1E,
			},
		},
	} {
		puts(t, c.h, c.want)
		if !bytes.Equal(bytesOf(c.h), c.want) {
			t.Errorf("the model of %+v: % X", c.h, bytesOf(c.h))
		}
	}
}

// P22.4, P22.5: a block by hand.
func TestBlockByHand(t *testing.T) {
	h := api.Head{Kind: api.Lossless, Length: 3, Step: 1}
	b, sum, e := head.Seal(crc.Make(), h, []byte{1, 2, 3, 4, 5, 6, 7})
	want := []byte{
		0xDE, 0x5C, 0x03, 0x00,
		0x00, 0x00, 0x00, 0x00, 0x03, 0x00, 0x00, 0x00, 0x01, 0x00, 0x00, 0x00,
		0x00, 0x00, 0x00, 0x00, 0x00, 0x00, 0x00, 0x00, 0x07, 0x00, 0x00, 0x00,
		0xCA, 0x3D, 0xE8, 0x15,
		1, 2, 3, 4, 5, 6, 7,
		0x1A, 0x06, 0x0F, 0x86,
	}
	if e != api.OK || sum != someSum || !bytes.Equal(b, want) {
		t.Errorf("% X, sum %#x, error %d", b, sum, e)
	}
	h.Size = 7
	opens(t, want, h, []byte{1, 2, 3, 4, 5, 6, 7}, someSum)
}

// edges are numbers around the ends of all fields.
func edges() []int {
	l := []int{math.MinInt, math.MinInt + 1, -1 << 32, -1 << 31, -256, -2, -1, 0, 1, 2, 3, 4, 5, 255, 256, math.MaxInt - 1, math.MaxInt}
	for _, b := range []int{8, 15, 16, 17, 23, 24, 25, 30, 31, 32, 33, 40, 62} {
		l = append(l, 1<<b-1, 1<<b, 1<<b+1)
	}
	return l
}

// numbersOf are a head's numbers.
func numbersOf(h *api.Head) []*int {
	return []*int{&h.Kind, &h.Index, &h.Length, &h.Step, &h.Bound, &h.Size}
}

// judged fails, if a head is told to be right though it is not, or the other way round; and tells.
func judged(t *testing.T, h api.Head) bool {
	t.Helper()
	if rightOf(h) {
		puts(t, h, bytesOf(h))
		return true
	}
	putsNone(t, h)
	return false
}

// P22.1, P22.2, P22.3: each number at each end, and each two of them.
func TestEdges(t *testing.T) {
	count := make(map[bool]int)
	for _, h := range plain() {
		count[judged(t, h)]++
		for i := range numbersOf(&h) {
			for _, v := range edges() {
				one := h
				*numbersOf(&one)[i] = v
				count[judged(t, one)]++
				for j := range i {
					for _, w := range edges() {
						two := one
						*numbersOf(&two)[j] = w
						count[judged(t, two)]++
					}
				}
			}
		}
	}
	if count[true] < 1000 || count[false] < 1000 {
		t.Error(count)
	}
}

// P22.1: what each kind may have.
func TestKinds(t *testing.T) {
	for kind := -1; kind < 9; kind++ {
		for _, last := range []bool{false, true} {
			for _, link := range []uint32{0, 1, 256, someLink, 1 << 31, linkEnd} {
				for _, step := range []int{0, 1, 2, 3, 9, mostStep} {
					for _, bound := range []int{0, 1, 4, step / 2, step/2 + 1, step} {
						judged(t, api.Head{Kind: kind, Length: 1, Step: step, Bound: bound, Last: last, Link: link})
					}
				}
			}
		}
	}
	for _, c := range []struct {
		h    api.Head
		want bool
	}{
		{api.Head{}, false},
		{api.Head{Kind: api.Base, Length: 1, Step: 1}, true},
		{api.Head{Kind: api.Correction, Length: 1, Step: 1}, true},
		{api.Head{Kind: api.Lossless, Length: 1, Step: 1}, true},
		{api.Head{Kind: api.Lossless, Length: 1, Step: 2}, false},
		{api.Head{Kind: api.Base, Length: 1, Step: 2, Last: true}, true},
		{api.Head{Kind: api.Correction, Length: 1, Step: 2, Last: true}, false},
		{api.Head{Kind: api.Lossless, Length: 1, Step: 1, Last: true}, false},
		{api.Head{Kind: api.Base, Length: 1, Step: 2, Link: 1}, false},
		{api.Head{Kind: api.Correction, Length: 1, Step: 2, Link: 1}, true},
		{api.Head{Kind: api.Lossless, Length: 1, Step: 1, Link: 1}, false},
		{api.Head{Kind: api.Base, Length: 1, Step: 7, Bound: 3}, true},
		{api.Head{Kind: api.Base, Length: 1, Step: 7, Bound: 4}, false},
		{api.Head{Kind: api.Base, Length: 1, Step: 1, Bound: 1}, false},
		{api.Head{Kind: api.Base, Length: 1}, false},
		{api.Head{Kind: api.Base, Step: 1}, false},
	} {
		if head.Right(c.h) != c.want {
			t.Errorf("%+v: not %t", c.h, c.want)
		}
	}
}

// P22.2, P22.3: heads of all kinds.
func TestThereAndBack(t *testing.T) {
	x := noise(1)
	for range 20000 {
		h := x.head()
		puts(t, h, bytesOf(h))
	}
}

// P22.3: bytes that are cut off; of the first two ones it is told if they are others.
func TestCutOff(t *testing.T) {
	table := crc.Make()
	refuses(t, table, nil, api.ErrEnd)
	refuses(t, table, []byte{}, api.ErrEnd)
	for _, h := range plain() {
		b := bytesOf(h)
		for n := range b {
			refuses(t, table, b[:n], api.ErrEnd)
			if n == 0 {
				continue
			}
			for place := range min(n, 2) {
				for change := 1; change < 256; change++ {
					other := slices.Clone(b[:n])
					other[place] ^= byte(change)
					refuses(t, table, other, api.ErrSync)
				}
			}
		}
	}
	for one := range 256 {
		if one != 0xDE {
			refuses(t, table, []byte{byte(one)}, api.ErrSync)
		}
		for two := range 256 {
			want := api.ErrSync
			if one == 0xDE && two == 0x5C {
				want = api.ErrEnd
			}
			refuses(t, table, []byte{byte(one), byte(two)}, want)
			refuses(t, table, append([]byte{byte(one), byte(two)}, make([]byte, 29)...), want)
		}
	}
}

// P22.3: a byte short of a head, though all of them would be 0, as what is missing is none.
func TestOneShort(t *testing.T) {
	for index := range 4000 {
		h := plain()[0]
		h.Index = index
		if b := bytesOf(h); b[headLong-1] == 0 {
			refuses(t, crc.Make(), b[:headLong-1], api.ErrEnd)
			refuses(t, crc.Make(), b[:headLong-1:headLong-1], api.ErrEnd)
			return
		}
	}
	t.Error("no sum ends with 0")
}

// P22.7, P22.3: with a byte changed no head is read, and no block is opened.
func TestChangedByte(t *testing.T) {
	table, x := crc.Make(), noise(2)
	for _, h := range append(plain(), x.head(), x.head(), x.head()) {
		payload := x.bytes(x.next(9))
		b, _ := blockOf(h, payload)
		for place := range b {
			for change := 1; change < 256; change++ {
				b[place] ^= byte(change)
				switch {
				case place < 2:
					refuses(t, table, b, api.ErrSync)
				case place < headLong:
					refuses(t, table, b, api.ErrSum)
				default:
					opensNone(t, table, b, api.ErrSum)
					if got, e := head.Get(table, b); e != api.OK || got.Size != len(payload) {
						t.Fatal(got, e)
					}
				}
				b[place] ^= byte(change)
			}
		}
		h.Size = len(payload)
		opens(t, b, h, payload, crc32.ChecksumIEEE(b[:len(b)-sumLong]))
	}
}

// P22.3: heads that are not right, though their sums are.
func TestGetWrong(t *testing.T) {
	table := crc.Make()
	for _, h := range plain() {
		for last := range 256 {
			b := laid(byte(h.Kind), byte(last), h)
			want := h
			want.Last = last == 1
			if last < 2 && rightOf(want) {
				puts(t, want, b)
				continue
			}
			refuses(t, table, b, api.ErrHead)
			refuses(t, table, b[:headLong-1], api.ErrEnd)
		}
		for kind := range 256 {
			if kind < 1 || kind > 3 {
				refuses(t, table, laid(byte(kind), 0, h), api.ErrHead)
			}
		}
	}
}

// P22.3: each field with whatever number it can hold.
func TestGetFields(t *testing.T) {
	table, x := crc.Make(), noise(3)
	count := make(map[api.Errno]int)
	for range 30000 {
		h := x.head()
		for range 1 + x.next(2) {
			v := x.upTo(mostAt)
			switch x.next(7) {
			case 0:
				h.Kind = x.next(5)
			case 1:
				h.Last = !h.Last
			case 2:
				h.Link = uint32(v)
			default:
				*numbersOf(&h)[1+x.next(5)] = v
			}
		}
		got, e := head.Get(table, bytesOf(h))
		switch {
		case rightOf(h) && (e != api.OK || got != h):
			t.Fatalf("%+v, error %d, not %+v", got, e, h)
		case !rightOf(h):
			refuses(t, table, bytesOf(h), api.ErrHead)
		}
		count[e]++
	}
	if count[api.OK] < 1000 || count[api.ErrHead] < 1000 {
		t.Error(count)
	}
}

// P22.3: another sum is told ahead of a head that is not right, and missing bytes ahead of both.
func TestGetInOrder(t *testing.T) {
	table := crc.Make()
	b := laid(0, 7, api.Head{})
	refuses(t, table, b, api.ErrHead)
	b[headLong-1] ^= 1
	refuses(t, table, b, api.ErrSum)
	refuses(t, table, b[:headLong-1], api.ErrEnd)
	b[1] ^= 1
	refuses(t, table, b, api.ErrSync)
	refuses(t, table, b[:headLong-1], api.ErrSync)
	refuses(t, nil, b, api.ErrNil)
	// The sum is that of the head's own bytes, not of what stands behind.
	good := bytesOf(plain()[0])
	refuses(t, table, summed(append(slices.Clone(good[:ahead]), 0, 0, 0, 0)), api.ErrSum)
}

// P22.2, P22.3, P22.4, P22.5: without a table there is nothing.
func TestNoTable(t *testing.T) {
	x := noise(4)
	for _, h := range append(plain(), api.Head{}, x.head(), api.Head{Kind: 9, Index: math.MinInt}) {
		good, _ := blockOf(h, []byte{1, 2})
		for _, b := range [][]byte{nil, {}, {0}, {0xDE, 0x5C}, good[:20], good} {
			refuses(t, nil, b, api.ErrNil)
			for _, payload := range [][]byte{b, make([]byte, beyond)} {
				if made, sum, e := head.Seal(nil, h, payload); e != api.ErrNil || len(made) > 0 || sum != 0 {
					t.Fatal(made, sum, e)
				}
			}
		}
		if b, e := head.Put(nil, h); e != api.ErrNil || len(b) > 0 {
			t.Fatal(b, e)
		}
	}
}

// P22.4, P22.5, P22.6: blocks of all kinds; the Size that is handed in does not matter.
func TestSealAndOpen(t *testing.T) {
	x := noise(5)
	for n := range 300 {
		for _, h := range append(plain(), x.head()) {
			seals(t, h, x.bytes(n))
			for _, size := range []int{0, n, -1, math.MinInt, math.MaxInt, beyond} {
				h.Size = size
				seals(t, h, make([]byte, n))
			}
		}
	}
	for _, h := range plain() {
		seals(t, h, nil)
		seals(t, h, []byte{})
	}
}

// P22.4: what may not be sealed, in the order in which it is named.
func TestSealWrong(t *testing.T) {
	table := crc.Make()
	long := make([]byte, beyond)
	fails := func(h api.Head, payload []byte, want api.Errno) {
		t.Helper()
		if b, sum, e := head.Seal(table, h, payload); e != want || len(b) > 0 || sum != 0 {
			t.Fatalf("%+v, %d bytes: %d bytes, sum %#x, error %d, not %d", h, len(payload), len(b), sum, e, want)
		}
	}
	for _, h := range plain() {
		fails(h, long, api.ErrSize)
		for i := range numbersOf(&h) {
			for _, v := range edges() {
				other := h
				*numbersOf(&other)[i] = v
				fails(other, long, api.ErrSize)
				if other.Size = 3; !rightOf(other) {
					fails(other, long[:3], api.ErrHead)
				}
			}
		}
	}
	fails(api.Head{}, nil, api.ErrHead)
	fails(api.Head{}, long, api.ErrSize)
	fails(api.Head{}, long[:longest], api.ErrHead)
	fails(api.Head{Kind: api.Lossless, Length: 1, Step: 1, Link: 1}, nil, api.ErrHead)
	fails(api.Head{Kind: api.Correction, Length: 1, Step: 1, Last: true}, nil, api.ErrHead)
}

// P22.1, P22.4, P22.5: as long a payload as there may be.
func TestLongest(t *testing.T) {
	x := noise(6)
	payload := bytes.Repeat(x.bytes(1<<12), longest>>12)
	for _, h := range plain() {
		b, sum, e := head.Seal(crc.Make(), h, payload)
		want, wantSum := blockOf(h, payload)
		if e != api.OK || sum != wantSum || !bytes.Equal(b, want) {
			t.Fatal(len(b), sum, e)
		}
		h.Size = longest
		opens(t, b, h, payload, sum)
		opensNone(t, crc.Make(), b[:len(b)-1], api.ErrEnd)
		b[longest] ^= 1
		opensNone(t, crc.Make(), b, api.ErrSum)
	}
}

// P22.5: a block that is cut off, wherever; behind a head all that is missing is the end.
func TestOpenCutOff(t *testing.T) {
	table, x := crc.Make(), noise(7)
	for _, h := range append(plain(), x.head()) {
		for _, n := range []int{0, 1, 5, 40} {
			b, _ := blockOf(h, x.bytes(n))
			for cut := range b {
				opensNone(t, table, b[:cut], api.ErrEnd)
				opensNone(t, table, b[:cut:cut], api.ErrEnd)
				if got, e := head.Get(table, b[:cut]); cut >= headLong && (e != api.OK || got.Size != n) {
					t.Fatal(got, e)
				}
			}
			// What is there is wrong; but it is the end that is told.
			b[headLong] ^= 1
			opensNone(t, table, b[:len(b)-1], api.ErrEnd)
			opensNone(t, table, b, api.ErrSum)
			// A head that may not be, and bytes that are missing.
			opensNone(t, table, laid(9, 0, h), api.ErrHead)
			b[5] ^= 1
			opensNone(t, table, b[:len(b)-1], api.ErrSum)
		}
	}
}

// P22.5: the sum is that of the head and the payload together, and of all of them.
func TestSumIsOfAll(t *testing.T) {
	table, h, payload := crc.Make(), plain()[0], []byte{1, 2, 3, 4, 5}
	block, _ := blockOf(h, payload)
	first := block[:headLong]
	for _, other := range [][]byte{payload, first, block[ahead : headLong+5], block[4 : headLong+5], block[:headLong+4], nil} {
		opensNone(t, table, slices.Concat(first, payload, four(crc32.ChecksumIEEE(other))), api.ErrSum)
	}
	opensNone(t, table, slices.Concat(first, payload, make([]byte, sumLong)), api.ErrSum)
	opens(t, slices.Concat(first, payload, four(crc32.ChecksumIEEE(block[:headLong+5]))), h, payload, crc32.ChecksumIEEE(block[:headLong+5]))
}

// P22.5: behind a head with its own sum a sum goes on as behind any other one: of blocks with the same payload it is the same.
func TestSumsOfUnlikeHeads(t *testing.T) {
	x := noise(12)
	for n := range 20 {
		payload := x.bytes(n)
		_, want := blockOf(plain()[0], payload)
		for _, h := range append(plain(), x.head()) {
			if b, sum, e := head.Seal(crc.Make(), h, payload); e != api.OK || sum != want {
				t.Fatalf("%+v: % X, sum %#x, error %d, not %#x", h, b, sum, e, want)
			}
		}
	}
}

// P22.6: what is opened is sealed as the bytes that it was, also of heads of which no other call made a block.
func TestOpenedIsSealed(t *testing.T) {
	table, x := crc.Make(), noise(8)
	count := make(map[api.Errno]int)
	for range 20000 {
		b := x.bytes(headLong + x.next(6))
		copy(b, []byte{0xDE, 0x5C, byte(x.next(4)), byte(x.next(3))})
		for place := 4; place < ahead; place++ {
			if x.next(8) > 0 {
				b[place] = 0
			}
		}
		b[8], b[12], b[24] = byte(x.next(3)), 1, byte(len(b)-headLong)
		copy(b[ahead:], four(crc32.ChecksumIEEE(b[:ahead])))
		b = summed(b)
		h, payload, sum, e := head.Open(table, b)
		count[e]++
		if e != api.OK {
			continue
		}
		again, sumAgain, e := head.Seal(table, h, payload)
		if e != api.OK || sumAgain != sum || !bytes.Equal(again, b) || !rightOf(h) {
			t.Fatalf("% X: % X, error %d", b, again, e)
		}
	}
	if count[api.OK] < 300 || count[api.ErrHead] < 300 {
		t.Error(count)
	}
}

// P22.3, P22.5: whatever bytes.
func TestWhateverBytes(t *testing.T) {
	table, x := crc.Make(), noise(9)
	for range 20000 {
		b := x.bytes(x.next(80))
		if len(b) > 1 && x.next(2) == 1 {
			b[0], b[1] = 0xDE, 0x5C
		}
		h, e := head.Get(table, b)
		if e == api.OK || h != (api.Head{}) {
			t.Fatal(h, e)
		}
		opensNone(t, table, b, e)
	}
}

// P22.2 to P22.5: a table that Make did not make says what its numbers say.
func TestStrangers(t *testing.T) {
	x := noise(10)
	wild, noughts, like := &crc.Table{}, &crc.Table{}, &crc.Table{}
	for place := range wild {
		wild[place] = uint32(x.next(1<<31) << 1)
		like[place] = crc.Make()[place]
	}
	for _, table := range []*crc.Table{wild, noughts, like} {
		kept := *table
		for range 200 {
			h, payload := x.head(), x.bytes(x.next(40))
			h.Size = len(payload)
			first := bytesOf(h)[:ahead]
			first = slices.Concat(first, four(table.Sum(first)))
			if b, e := head.Put(table, h); e != api.OK || !bytes.Equal(b, first) {
				t.Fatalf("% X, error %d, not % X", b, e, first)
			}
			if got, e := head.Get(table, first); e != api.OK || got != h {
				t.Fatal(got, e)
			}
			all := slices.Concat(first, payload)
			wantSum := table.Sum(all)
			b, sum, e := head.Seal(table, h, payload)
			if e != api.OK || sum != wantSum || !bytes.Equal(b, slices.Concat(all, four(wantSum))) {
				t.Fatal(b, sum, e)
			}
			got, gotPayload, gotSum, e := head.Open(table, b)
			if e != api.OK || got != h || !bytes.Equal(gotPayload, payload) || gotSum != wantSum {
				t.Fatal(got, gotPayload, gotSum, e)
			}
		}
		if *table != kept {
			t.Error("the table has changed")
		}
	}
}

// P22.2 to P22.5: what is answered is new memory, and what is handed in is neither changed nor kept.
func TestAnswersAreNew(t *testing.T) {
	table, x := crc.Make(), noise(11)
	for _, h := range plain() {
		// Room behind the bytes that are handed in is nobody's to write to.
		room := x.bytes(200)
		kept := slices.Clone(room)
		payload := room[:5]
		for range 2 {
			b, sum, e := head.Seal(table, h, payload)
			want, wantSum := blockOf(h, payload)
			if e != api.OK || sum != wantSum || !bytes.Equal(b, want) {
				t.Fatal(b, sum, e)
			}
			_, got, _, e := head.Open(table, b)
			first, putErr := head.Put(table, h)
			if e != api.OK || putErr != api.OK || !bytes.Equal(got, payload) || !bytes.Equal(first, bytesOf(h)) {
				t.Fatal(got, e, first, putErr)
			}
			clear(b)
			if !bytes.Equal(got, payload) {
				t.Error("the payload is a part of the block that was handed in")
			}
			clear(got)
			clear(first)
			_ = append(got, 1, 2, 3)
			_ = append(first, 1, 2, 3)
			_ = append(b, 1, 2, 3)
		}
		block, _ := blockOf(h, payload)
		same := slices.Clone(block)
		_, got, _, _ := head.Open(table, block)
		clear(got)
		_ = append(got, 9, 9, 9, 9)
		if !bytes.Equal(room, kept) || !bytes.Equal(block, same) || *table != *crc.Make() {
			t.Error("what was handed in has changed")
		}
	}
}
