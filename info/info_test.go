package info_test

import (
	"bytes"
	"encoding/binary"
	"hash/crc32"
	"math"
	"slices"
	"testing"

	"descant/api"
	"descant/crc"
	"descant/info"
)

const (
	long  = 19 // bytes of info
	ahead = 15 // of these those that stand ahead of the sum
)

// noise is numbers that look like chance, and are the same ones at each run.
type noise uint64

func (x *noise) next(n int) int {
	*x = *x*6364136223846793005 + 1442695040888963407
	return int(*x >> 33 % noise(n))
}

func (x *noise) bytes(n int) []byte {
	b := make([]byte, n)
	for i := range b {
		b[i] = byte(x.next(256))
	}
	return b
}

// from is a number from lo to hi, often one at an end.
func (x *noise) from(lo, hi int) int {
	switch x.next(6) {
	case 0:
		return lo
	case 1:
		return hi
	}
	return lo + (x.next(1<<31)>>x.next(31))%(hi-lo+1)
}

func (x *noise) format() api.Format {
	return api.Format{Channels: x.from(1, 8), Bits: x.from(8, 24), Rate: x.from(1, 1048575)}
}

// info is right info of any kind.
func (x *noise) info() api.Info {
	i := api.Info{Kind: 1 + x.next(3), Format: x.format(), Block: x.from(256, 65536), Shape: x.next(4)}
	if i.Kind == api.Lossless {
		i.Shape = 0
	}
	return i
}

// config is right settings.
func (x *noise) config() api.Config {
	return api.Config{Block: x.from(256, 65536), Order: x.from(0, 32), Window: x.next(3), Shape: x.next(4), Target: x.from(1, 1<<30), Reserve: x.from(0, 1<<30)}
}

// plain is right info of each kind.
func plain() []api.Info {
	f := api.Format{Channels: 2, Bits: 16, Rate: 44100}
	return []api.Info{
		{Kind: api.Base, Format: f, Block: 4096, Shape: 2},
		{Kind: api.Correction, Format: f, Block: 4096, Shape: 2},
		{Kind: api.Lossless, Format: f, Block: 4096},
	}
}

// settings are right ones.
func settings() api.Config {
	return api.Config{Block: 4096, Order: 8, Window: 1, Shape: 2, Target: 64000, Reserve: 8000}
}

// numbersOf are info's numbers, in the order of its struct.
func numbersOf(i *api.Info) []*int {
	return []*int{&i.Kind, &i.Format.Channels, &i.Format.Bits, &i.Format.Rate, &i.Block, &i.Shape}
}

// partsOf are settings' numbers, in the order of their struct.
func partsOf(c *api.Config) []*int {
	return []*int{&c.Block, &c.Order, &c.Window, &c.Shape, &c.Target, &c.Reserve}
}

// edges are numbers around the ends of all that may be, and of all fields.
func edges() []int {
	l := []int{math.MinInt, math.MinInt + 1, -1 << 40, -1 << 32, -1<<32 + 1, -256, -255, -2, -1, 5, 6, 7, 9, 10, 11, 23, 24, 25, 31, 33, math.MaxInt - 1, math.MaxInt}
	for _, b := range []int{0, 1, 2, 3, 4, 5, 8, 16, 17, 20, 23, 24, 30, 31, 32, 33, 40, 56, 62} {
		l = append(l, 1<<b-1, 1<<b, 1<<b+1, 1<<b+2, 1<<b+8)
	}
	slices.Sort(l)
	return slices.Compact(l)
}

// within tells whether each number is between those at its place.
func within(lo, hi []int, numbers ...int) bool {
	for i, v := range numbers {
		if v < lo[i] || v > hi[i] {
			return false
		}
	}
	return true
}

// isFormat tells whether a format is right, as the words say it.
func isFormat(f api.Format) bool {
	return within([]int{1, 8, 1}, []int{8, 24, 1048575}, f.Channels, f.Bits, f.Rate)
}

// isRight tells whether info is right, as the words say it.
func isRight(i api.Info) bool {
	if !isFormat(i.Format) || !within([]int{256, 0}, []int{65536, 3}, i.Block, i.Shape) {
		return false
	}
	if i.Kind == api.Lossless {
		return i.Shape == 0
	}
	return i.Kind == api.Base || i.Kind == api.Correction
}

// isConfig tells whether settings are right, as the words say it.
func isConfig(c api.Config) bool {
	return within([]int{256, 0, 0, 0, 1, 0}, []int{65536, 32, 2, 3, 1073741824, 1073741824}, c.Block, c.Order, c.Window, c.Shape, c.Target, c.Reserve)
}

// summed are bytes, and their sum behind them.
func summed(b []byte) []byte {
	return binary.LittleEndian.AppendUint32(bytes.Clone(b), crc32.ChecksumIEEE(b))
}

// laid are info's bytes ahead of its sum, as the words say it; also of info that is not right.
func laid(i api.Info) []byte {
	b := []byte("DSC1")
	b = append(b, byte(i.Kind), byte(i.Format.Channels), byte(i.Format.Bits), byte(i.Shape))
	b = append(b, byte(i.Format.Rate), byte(i.Format.Rate>>8), byte(i.Format.Rate>>16))
	return append(b, byte(i.Block), byte(i.Block>>8), byte(i.Block>>16), byte(i.Block>>24))
}

// bytesOf are info's bytes.
func bytesOf(i api.Info) []byte {
	return summed(laid(i))
}

// told is the info that 15 bytes tell, as the words say it, right or not.
func told(b []byte) api.Info {
	number := func(from, to int) int {
		v := 0
		for place := to - 1; place >= from; place-- {
			v = 256*v + int(b[place])
		}
		return v
	}
	f := api.Format{Channels: number(5, 6), Bits: number(6, 7), Rate: number(8, 11)}
	return api.Info{Kind: number(4, 5), Format: f, Shape: number(7, 8), Block: number(11, 15)}
}

// puts fails, if right info has other bytes, or is not got of them, whatever stands behind them.
func puts(t *testing.T, i api.Info, want []byte) {
	t.Helper()
	table := crc.Make()
	b, e := info.Put(table, i)
	if e != api.OK || !bytes.Equal(b, want) {
		t.Fatalf("%+v: bytes % X, error %d, not % X", i, b, e, want)
	}
	if !info.Right(i) {
		t.Fatalf("%+v: not right", i)
	}
	for _, behind := range [][]byte{nil, {0}, {'D'}, want, make([]byte, 100)} {
		got, e := info.Get(table, slices.Concat(want, behind))
		if e != api.OK || got != i {
			t.Fatalf("of % X: %+v, error %d, not %+v", want, got, e, i)
		}
	}
}

// putsNone fails, if info that is not right has bytes.
func putsNone(t *testing.T, i api.Info) {
	t.Helper()
	if b, e := info.Put(crc.Make(), i); e != api.ErrHead || len(b) > 0 {
		t.Fatalf("%+v: bytes % X, error %d", i, b, e)
	}
	if info.Right(i) {
		t.Fatalf("%+v: right", i)
	}
	if b, e := info.Put(nil, i); e != api.ErrNil || len(b) > 0 {
		t.Fatalf("%+v, no table: bytes % X, error %d", i, b, e)
	}
}

// judged fails, if info is told to be right though it is not, or the other way round; and tells.
func judged(t *testing.T, i api.Info) bool {
	t.Helper()
	if isRight(i) {
		puts(t, i, bytesOf(i))
		return true
	}
	putsNone(t, i)
	return false
}

// refuses fails, if info is got of these bytes, or there is another error.
func refuses(t *testing.T, table *crc.Table, b []byte, want api.Errno) {
	t.Helper()
	if i, e := info.Get(table, b); e != want || i != (api.Info{}) {
		t.Fatalf("% X: %+v, error %d, not %d", b[:min(len(b), 40)], i, e, want)
	}
}

// makes fails, if info of a kind, a format and settings is another one, or there is another error.
func makes(t *testing.T, kind int, f api.Format, c api.Config, want api.Info, wantErr api.Errno) {
	t.Helper()
	i, e := info.Of(kind, f, c)
	if e != wantErr || i != want {
		t.Fatalf("kind %d, %+v, %+v: %+v, error %d, not %+v, error %d", kind, f, c, i, e, want, wantErr)
	}
	if e == api.OK && !info.Right(i) {
		t.Fatalf("kind %d, %+v, %+v: %+v is not right", kind, f, c, i)
	}
}

// of is info of a kind, a format and settings, as the words say it.
func of(kind int, f api.Format, c api.Config) (api.Info, api.Errno) {
	if kind < 1 || kind > 3 {
		return api.Info{}, api.ErrKind
	}
	if !isFormat(f) {
		return api.Info{}, api.ErrFormat
	}
	if !isConfig(c) {
		return api.Info{}, api.ErrConfig
	}
	if kind == api.Lossless {
		return api.Info{Kind: kind, Format: f, Block: c.Block}, api.OK
	}
	return api.Info{Kind: kind, Format: f, Block: c.Block, Shape: c.Shape}, api.OK
}

// P27.1, P27.2, P27.3, and the chapter's example: info by hand.
func TestByHand(t *testing.T) {
	if info.Long != long {
		t.Error("Long:", info.Long)
	}
	for _, c := range []struct {
		i    api.Info
		want []byte
	}{
		{
			api.Info{Kind: api.Base, Format: api.Format{Channels: 1, Bits: 8, Rate: 8000}, Block: 256},
			[]byte{
				0x44, 0x53, 0x43, 0x31, 0x01, 0x01, 0x08, 0x00,
				0x40, 0x1F, 0x00, 0x00, 0x01, 0x00, 0x00,
				0x57, 0xCD, 0x28, 0x61,
			},
		},
		{
			api.Info{Kind: api.Correction, Format: api.Format{Channels: 7, Bits: 24, Rate: 0x0D0C0B}, Block: 0x010000, Shape: 3},
			[]byte{
				0x44, 0x53, 0x43, 0x31, 0x02, 0x07, 0x18, 0x03,
				0x0B, 0x0C, 0x0D, 0x00, 0x00, 0x01, 0x00,
				0xF2, 0x50, 0x9C, 0xF4,
			},
		},
		{
			api.Info{Kind: api.Lossless, Format: api.Format{Channels: 8, Bits: 9, Rate: 1048575}, Block: 0x0A0B},
			[]byte{
				0x44, 0x53, 0x43, 0x31, 0x03, 0x08, 0x09, 0x00,
				0xFF, 0xFF, 0x0F, 0x0B, 0x0A, 0x00, 0x00,
				0xE5, 0x90, 0x57, 0x4B,
			},
		},
	} {
		if !bytes.Equal(bytesOf(c.i), c.want) {
			t.Errorf("the model of %+v: % X", c.i, bytesOf(c.i))
		}
		puts(t, c.i, c.want)
	}
}

// P27.1, P27.2, P27.3: each number at each end, and each two of them.
func TestEdges(t *testing.T) {
	count := make(map[bool]int)
	for _, i := range plain() {
		count[judged(t, i)]++
		for place := range numbersOf(&i) {
			for _, v := range edges() {
				one := i
				*numbersOf(&one)[place] = v
				count[judged(t, one)]++
				for other := range place {
					for _, w := range edges() {
						two := one
						*numbersOf(&two)[other] = w
						count[judged(t, two)]++
					}
				}
			}
		}
	}
	if count[true] < 1000 || count[false] < 1000 {
		t.Error(count)
	}
}

// P27.1: what each kind may have.
func TestKinds(t *testing.T) {
	f := api.Format{Channels: 1, Bits: 8, Rate: 1}
	for kind := -3; kind < 300; kind++ {
		for shape := -3; shape < 9; shape++ {
			judged(t, api.Info{Kind: kind, Format: f, Block: 256, Shape: shape})
		}
	}
	for _, c := range []struct {
		i    api.Info
		want bool
	}{
		{api.Info{}, false},
		{api.Info{Kind: api.Base, Format: f, Block: 256}, true},
		{api.Info{Kind: api.Base, Format: f, Block: 256, Shape: 3}, true},
		{api.Info{Kind: api.Base, Format: f, Block: 256, Shape: 4}, false},
		{api.Info{Kind: api.Base, Format: f, Block: 256, Shape: -1}, false},
		{api.Info{Kind: api.Correction, Format: f, Block: 65536, Shape: 3}, true},
		{api.Info{Kind: api.Correction, Format: f, Block: 65537, Shape: 3}, false},
		{api.Info{Kind: api.Correction, Format: f, Block: 256, Shape: 4}, false},
		{api.Info{Kind: api.Lossless, Format: f, Block: 256}, true},
		{api.Info{Kind: api.Lossless, Format: f, Block: 256, Shape: 1}, false},
		{api.Info{Kind: api.Lossless, Format: f, Block: 256, Shape: -1}, false},
		{api.Info{Kind: api.Lossless, Format: f, Block: 255}, false},
		{api.Info{Kind: api.Lossless, Block: 256}, false},
		{api.Info{Format: f, Block: 256}, false},
		{api.Info{Kind: 4, Format: f, Block: 256}, false},
	} {
		if info.Right(c.i) != c.want {
			t.Errorf("%+v: not %t", c.i, c.want)
		}
	}
}

// P27.1: settings by hand.
func TestConfigByHand(t *testing.T) {
	for _, c := range []struct {
		c    api.Config
		want api.Errno
	}{
		{settings(), api.OK},
		{api.Config{}, api.ErrConfig},
		{api.Config{Block: 256, Target: 1}, api.OK},
		{api.Config{Block: 255, Target: 1}, api.ErrConfig},
		{api.Config{Block: 256}, api.ErrConfig},
		{api.Config{Block: 65536, Order: 32, Window: 2, Shape: 3, Target: 1 << 30, Reserve: 1 << 30}, api.OK},
		{api.Config{Block: 65537, Order: 32, Window: 2, Shape: 3, Target: 1 << 30, Reserve: 1 << 30}, api.ErrConfig},
		{api.Config{Block: 65536, Order: 33, Window: 2, Shape: 3, Target: 1 << 30, Reserve: 1 << 30}, api.ErrConfig},
		{api.Config{Block: 65536, Order: 32, Window: 3, Shape: 3, Target: 1 << 30, Reserve: 1 << 30}, api.ErrConfig},
		{api.Config{Block: 65536, Order: 32, Window: 2, Shape: 4, Target: 1 << 30, Reserve: 1 << 30}, api.ErrConfig},
		{api.Config{Block: 65536, Order: 32, Window: 2, Shape: 3, Target: 1<<30 + 1, Reserve: 1 << 30}, api.ErrConfig},
		{api.Config{Block: 65536, Order: 32, Window: 2, Shape: 3, Target: 1 << 30, Reserve: 1<<30 + 1}, api.ErrConfig},
		{api.Config{Block: 256, Order: -1, Target: 1}, api.ErrConfig},
		{api.Config{Block: 256, Window: -1, Target: 1}, api.ErrConfig},
		{api.Config{Block: 256, Shape: -1, Target: 1}, api.ErrConfig},
		{api.Config{Block: 256, Target: 1, Reserve: -1}, api.ErrConfig},
	} {
		if e := info.Config(c.c); e != c.want {
			t.Errorf("%+v: error %d, not %d", c.c, e, c.want)
		}
	}
}

// P27.1, P27.5: each number of settings at each end, and each two of them.
func TestConfigEdges(t *testing.T) {
	count := make(map[api.Errno]int)
	f := plain()[0].Format
	ask := func(c api.Config) {
		t.Helper()
		want := api.ErrConfig
		if isConfig(c) {
			want = api.OK
		}
		if e := info.Config(c); e != want {
			t.Fatalf("%+v: error %d, not %d", c, e, want)
		}
		for kind := 1; kind <= 3; kind++ {
			i, e := of(kind, f, c)
			makes(t, kind, f, c, i, e)
		}
		count[want]++
	}
	for place := range partsOf(&api.Config{}) {
		for _, v := range edges() {
			one := settings()
			*partsOf(&one)[place] = v
			ask(one)
			for other := range place {
				for _, w := range edges() {
					two := one
					*partsOf(&two)[other] = w
					ask(two)
				}
			}
		}
	}
	x := noise(1)
	for range 5000 {
		ask(x.config())
	}
	if count[api.OK] < 1000 || count[api.ErrConfig] < 1000 {
		t.Error(count)
	}
}

// P27.2, P27.3, P27.6: all kinds, channels, bits and shapes, and rates and blocks of all sizes.
func TestThereAndBack(t *testing.T) {
	x := noise(2)
	for kind := 1; kind <= 3; kind++ {
		for channels := 1; channels <= 8; channels++ {
			for bits := 8; bits <= 24; bits++ {
				for shape := range 4 {
					f := api.Format{Channels: channels, Bits: bits, Rate: x.from(1, 1048575)}
					judged(t, api.Info{Kind: kind, Format: f, Block: x.from(256, 65536), Shape: shape})
				}
			}
		}
	}
	for range 20000 {
		i := x.info()
		puts(t, i, bytesOf(i))
	}
}

// P27.3: bytes that are cut off; of the first four ones it is told if they are others.
func TestCutOff(t *testing.T) {
	table := crc.Make()
	refuses(t, table, nil, api.ErrEnd)
	refuses(t, table, []byte{}, api.ErrEnd)
	for _, i := range plain() {
		b := bytesOf(i)
		for n := range b {
			refuses(t, table, b[:n], api.ErrEnd)
			refuses(t, table, b[:n:n], api.ErrEnd)
			for place := range min(n, 4) {
				for change := 1; change < 256; change++ {
					other := slices.Clone(b[:n])
					other[place] ^= byte(change)
					refuses(t, table, other, api.ErrKind)
				}
			}
			for place := 4; place < n; place++ {
				other := slices.Clone(b[:n])
				other[place] ^= 0xFF
				refuses(t, table, other, api.ErrEnd)
			}
		}
	}
	for _, s := range []string{"D", "DS", "DSC", "DSC1", "DSC1\x00", "DSC1DSC1DSC1DSC1DS"} {
		refuses(t, table, []byte(s), api.ErrEnd)
	}
	for _, s := range []string{"d", "S", "\x00", "DC", "DSS", "DSC0", "DSC2", "dsc1", "SDC1", "1CSD", "DSC\x00", "TG", "EN", "\xDE\x5C", "RIFF"} {
		refuses(t, table, []byte(s), api.ErrKind)
		refuses(t, table, append([]byte(s), make([]byte, 50)...), api.ErrKind)
	}
}

// P27.3: a byte short, though it would be 0, as what is missing is none.
func TestOneShort(t *testing.T) {
	for rate := 1; rate < 4000; rate++ {
		i := plain()[0]
		i.Format.Rate = rate
		if b := bytesOf(i); b[long-1] == 0 {
			refuses(t, crc.Make(), b[:long-1], api.ErrEnd)
			refuses(t, crc.Make(), b[:long-1:long-1], api.ErrEnd)
			puts(t, i, b)
			return
		}
	}
	t.Error("no sum ends with 0")
}

// P27.3: with a byte changed no info is read.
func TestChangedByte(t *testing.T) {
	table, x := crc.Make(), noise(3)
	for _, i := range append(plain(), x.info(), x.info(), x.info()) {
		b := append(bytesOf(i), x.bytes(5)...)
		for place := range b {
			for change := 1; change < 256; change++ {
				b[place] ^= byte(change)
				switch got, e := info.Get(table, b); {
				case place < 4:
					refuses(t, table, b, api.ErrKind)
				case place < long:
					refuses(t, table, b, api.ErrSum)
				case e != api.OK || got != i:
					t.Fatal(got, e)
				}
				b[place] ^= byte(change)
			}
		}
	}
}

// P27.3, P27.6: each byte with whatever number it can hold, and each two of them with some, under a sum that is right.
func TestGetFields(t *testing.T) {
	table, x := crc.Make(), noise(4)
	count := make(map[api.Errno]int)
	ask := func(first []byte) {
		t.Helper()
		b, i := summed(first), told(first)
		if isRight(i) {
			puts(t, i, b)
			count[api.OK]++
			return
		}
		refuses(t, table, b, api.ErrHead)
		refuses(t, table, append(b, 1, 2, 3), api.ErrHead)
		refuses(t, table, b[:long-1], api.ErrEnd)
		putsNone(t, i)
		count[api.ErrHead]++
	}
	for _, i := range append(plain(), x.info(), x.info()) {
		for place := 4; place < ahead; place++ {
			for v := range 256 {
				first := laid(i)
				first[place] = byte(v)
				ask(first)
				other := 4 + x.next(ahead-4)
				first[other] = []byte{0, 1, 2, 3, 4, 8, 9, 16, 24, 25, 128, 255}[x.next(12)]
				ask(first)
			}
		}
	}
	for range 20000 {
		first := append([]byte("DSC1"), x.bytes(ahead-4)...)
		first[4], first[5], first[6], first[7] = first[4]%5, first[5]%10, first[6]%27, first[7]%5
		first[10], first[13], first[14] = first[10]%18, first[13]%2, 0
		ask(first)
	}
	if count[api.OK] < 1000 || count[api.ErrHead] < 1000 {
		t.Error(count)
	}
}

// P27.3: errors in their order.
func TestGetInOrder(t *testing.T) {
	table := crc.Make()
	b := bytesOf(api.Info{})
	refuses(t, table, b, api.ErrHead)
	b[long-1] ^= 1
	refuses(t, table, b, api.ErrSum)
	refuses(t, table, b[:long-1], api.ErrEnd)
	b[3] ^= 1
	refuses(t, table, b, api.ErrKind)
	refuses(t, table, b[:long-1], api.ErrKind)
	refuses(t, nil, b, api.ErrNil)
	refuses(t, nil, nil, api.ErrNil)
	// The sum is that of the 15 bytes ahead of it, and of all these.
	good := bytesOf(plain()[0])
	for _, part := range [][]byte{good[4:ahead], good[:ahead-1], good[:long], nil} {
		other := binary.LittleEndian.AppendUint32(slices.Clone(good[:ahead]), crc32.ChecksumIEEE(part))
		refuses(t, table, other, api.ErrSum)
	}
	high := binary.BigEndian.AppendUint32(slices.Clone(good[:ahead]), crc32.ChecksumIEEE(good[:ahead]))
	refuses(t, table, high, api.ErrSum)
}

// P27.2, P27.3: without a table there is nothing.
func TestNoTable(t *testing.T) {
	x := noise(5)
	for _, i := range append(plain(), api.Info{}, x.info(), api.Info{Kind: 9, Block: math.MinInt}) {
		for _, b := range [][]byte{nil, {}, {0}, []byte("DSC1"), bytesOf(i)[:12], bytesOf(i)} {
			refuses(t, nil, b, api.ErrNil)
		}
		if b, e := info.Put(nil, i); e != api.ErrNil || len(b) > 0 {
			t.Fatal(b, e)
		}
	}
}

// P27.3: whatever bytes.
func TestWhateverBytes(t *testing.T) {
	table, x := crc.Make(), noise(6)
	for range 20000 {
		b := x.bytes(x.next(40))
		want := api.ErrKind
		if x.next(3) > 0 {
			copy(b, "DSC1")
			want = api.ErrSum
			if len(b) < long {
				want = api.ErrEnd
			}
		} else if len(b) == 0 {
			want = api.ErrEnd
		} else if b[0] == 'D' {
			b[0] = 'd'
		}
		refuses(t, table, b, want)
	}
}

// P27.4: files that may belong together, and such that differ in one number.
func TestMates(t *testing.T) {
	x := noise(7)
	for range 2000 {
		base := x.info()
		base.Kind, base.Shape = api.Base, x.next(4)
		mate := base
		mate.Kind = api.Correction
		if !info.Mates(base, mate) {
			t.Fatalf("%+v, %+v: no mates", base, mate)
		}
		for place := range numbersOf(&mate) {
			for _, v := range []int{0, 1, 2, 3, 4, -1, math.MinInt, *numbersOf(&mate)[place] + 1, *numbersOf(&mate)[place] + 1<<32} {
				for both := range 2 {
					pair := [2]api.Info{base, mate}
					was := *numbersOf(&pair[both])[place]
					*numbersOf(&pair[both])[place] = v
					if got := info.Mates(pair[0], pair[1]); got != (v == was) {
						t.Fatalf("%+v, %+v: %t", pair[0], pair[1], got)
					}
				}
			}
		}
	}
}

// P27.4: of all kinds, both in all orders; whether infos are right does not matter.
func TestMatesOfKinds(t *testing.T) {
	for one := -1; one < 9; one++ {
		for two := -1; two < 9; two++ {
			for _, i := range append(plain(), api.Info{}, api.Info{Format: api.Format{Channels: -1, Bits: 99}, Block: math.MinInt, Shape: 7}) {
				a, b := i, i
				a.Kind, b.Kind = one, two
				if got := info.Mates(a, b); got != (one == api.Base && two == api.Correction) {
					t.Fatalf("%+v, %+v: %t", a, b, got)
				}
			}
		}
	}
}

// P27.5: info by hand.
func TestOfByHand(t *testing.T) {
	f, c := plain()[0].Format, settings()
	for _, want := range plain() {
		makes(t, want.Kind, f, c, want, api.OK)
	}
	none := api.Info{}
	makes(t, 0, f, c, none, api.ErrKind)
	makes(t, 4, f, c, none, api.ErrKind)
	makes(t, -1, api.Format{}, api.Config{}, none, api.ErrKind)
	for kind := 1; kind <= 3; kind++ {
		makes(t, kind, api.Format{}, c, none, api.ErrFormat)
		makes(t, kind, api.Format{}, api.Config{}, none, api.ErrFormat)
		makes(t, kind, f, api.Config{}, none, api.ErrConfig)
		wrong := c
		wrong.Shape = 4
		makes(t, kind, f, wrong, none, api.ErrConfig)
	}
}

// P27.5: all kinds, with formats and settings that are right, and such that are not.
func TestOf(t *testing.T) {
	x := noise(8)
	count := make(map[api.Errno]int)
	for range 60000 {
		kind, f, c := 1+x.next(3), x.format(), x.config()
		ends := edges()
		if x.next(8) == 0 {
			kind = ends[x.next(len(ends))]
		}
		if x.next(4) == 0 {
			*[]*int{&f.Channels, &f.Bits, &f.Rate}[x.next(3)] = ends[x.next(len(ends))]
		}
		if x.next(3) == 0 {
			*partsOf(&c)[x.next(6)] = ends[x.next(len(ends))]
		}
		i, e := of(kind, f, c)
		makes(t, kind, f, c, i, e)
		count[e]++
	}
	for _, e := range []api.Errno{api.OK, api.ErrKind, api.ErrFormat, api.ErrConfig} {
		if count[e] < 1000 {
			t.Error(count)
		}
	}
}

// P27.4, P27.5: base and correction of the same settings are mates; lossless ones are not.
func TestOfMates(t *testing.T) {
	x := noise(9)
	for range 2000 {
		f, c := x.format(), x.config()
		var made []api.Info
		for kind := 1; kind <= 3; kind++ {
			i, e := info.Of(kind, f, c)
			if e != api.OK {
				t.Fatal(f, c, e)
			}
			made = append(made, i)
		}
		for one, a := range made {
			for two, b := range made {
				if info.Mates(a, b) != (one == 0 && two == 1) {
					t.Fatal(a, b)
				}
			}
		}
	}
}

// P27.2, P27.3: a table that Make did not make says what its numbers say.
func TestStrangers(t *testing.T) {
	x := noise(10)
	wild, noughts, like := &crc.Table{}, &crc.Table{}, &crc.Table{}
	for place := range wild {
		wild[place] = uint32(x.next(1<<31) << 1)
		like[place] = crc.Make()[place]
	}
	for _, table := range []*crc.Table{wild, noughts, like} {
		kept := *table
		for range 300 {
			i := x.info()
			want := binary.LittleEndian.AppendUint32(laid(i), table.Sum(laid(i)))
			if b, e := info.Put(table, i); e != api.OK || !bytes.Equal(b, want) {
				t.Fatalf("% X, error %d, not % X", b, e, want)
			}
			if got, e := info.Get(table, want); e != api.OK || got != i {
				t.Fatal(got, e)
			}
			want[ahead] ^= 1
			refuses(t, table, want, api.ErrSum)
		}
		if *table != kept {
			t.Error("the table has changed")
		}
	}
}

// P27.2, P27.3: what is answered is new memory, and what is handed in is neither changed nor kept.
func TestAnswersAreNew(t *testing.T) {
	table, x := crc.Make(), noise(11)
	for _, i := range plain() {
		for range 2 {
			b, e := info.Put(table, i)
			if e != api.OK || !bytes.Equal(b, bytesOf(i)) {
				t.Fatal(b, e)
			}
			other, _ := info.Put(table, i)
			clear(b)
			_ = append(b, 1, 2, 3)
			if !bytes.Equal(other, bytesOf(i)) {
				t.Error("two answers share their memory")
			}
		}
		// Room behind the bytes that are handed in is nobody's to write to.
		room := append(bytesOf(i), x.bytes(50)...)
		kept := slices.Clone(room)
		for n := range room {
			got, e := info.Get(table, room[:n])
			if n < long {
				refuses(t, table, room[:n], api.ErrEnd)
			} else if e != api.OK || got != i {
				t.Fatal(got, e)
			}
		}
		if !bytes.Equal(room, kept) || *table != *crc.Make() {
			t.Error("what was handed in has changed")
		}
	}
}
