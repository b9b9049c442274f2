package tail_test

import (
	"bytes"
	"encoding/binary"
	"hash/crc32"
	"math"
	"math/big"
	"slices"
	"testing"

	"descant/api"
	"descant/crc"
	"descant/tail"
)

const (
	first     = 14      // bytes of a tail ahead of its places
	placeLong = 5       // bytes of a place
	sumLong   = 4       // bytes of a sum
	most      = 1 << 24 // places, at the most
	past      = 1 << 40 // the least number that is too great for a place
	mostCount = 1<<32 - 1
	someSum   = 0xCBF43926
)

// noise is numbers that look like chance, and are the same ones at each run.
type noise uint64

func (x *noise) next(n int) int {
	*x = *x*6364136223846793005 + 1442695040888963407
	return int(*x >> 33 % noise(n))
}

func (x *noise) bytes(n int) []byte {
	b := make([]byte, n)
	for i := range b {
		b[i] = byte(x.next(256))
	}
	return b
}

// upTo is a number from 0 to n, of all sizes.
func (x *noise) upTo(n int) int {
	v := x.next(1<<31)<<31 | x.next(1<<31)
	switch x.next(8) {
	case 0:
		return 0
	case 1:
		return n
	case 2:
		return v % 300 % (n + 1)
	}
	return v >> x.next(56) % (n + 1)
}

// places are up to n numbers that rise.
func (x *noise) places(n int) []int {
	l := make([]int, x.next(n+1))
	for i := range l {
		l[i] = x.upTo(past - 1)
	}
	slices.Sort(l)
	return slices.Compact(l)
}

// tail is a right tail of up to n places.
func (x *noise) tail(n int) api.Tail {
	return api.Tail{Count: x.upTo(mostCount), Sum: uint32(x.upTo(mostCount)), Places: x.places(n)}
}

// whole is a tail that has as many places as there are blocks.
func (x *noise) whole(count, block int) api.Tail {
	y := api.Tail{Count: count, Sum: uint32(x.upTo(mostCount))}
	at := x.next(100)
	for left := count; left > 0; left -= block {
		y.Places = append(y.Places, at)
		at += 1 + x.next(5000)
	}
	return y
}

// plain are right tails.
func plain() []api.Tail {
	return []api.Tail{
		{},
		{Count: 600, Sum: someSum, Places: []int{26, 300, 512}},
		{Count: mostCount, Sum: math.MaxUint32, Places: []int{0}},
		{Count: 1, Places: []int{past - 1}},
		{Count: 7, Sum: 1, Places: []int{0, 1, 2, 3, 255, 256, 65535, 65536, 1<<32 - 1, 1 << 32, past - 2, past - 1}},
	}
}

// isRight tells whether a tail is right, as the words say it.
func isRight(x api.Tail) bool {
	if x.Count < 0 || x.Count > 4294967295 || len(x.Places) > 16777216 {
		return false
	}
	for i, p := range x.Places {
		if i > 0 && p <= x.Places[i-1] {
			return false
		}
	}
	return len(x.Places) == 0 || x.Places[0] >= 0 && x.Places[len(x.Places)-1] < 1099511627776
}

// summed are bytes, and their sum behind them.
func summed(b []byte) []byte {
	return binary.LittleEndian.AppendUint32(slices.Clone(b), crc32.ChecksumIEEE(b))
}

// laid are a tail's bytes ahead of its sum, as the words say it; also of tails that are not right.
func laid(x api.Tail) []byte {
	b := make([]byte, 0, first+placeLong*len(x.Places)+sumLong)
	b = append(b, 'E', 'N')
	for _, v := range []int{x.Count, int(x.Sum), len(x.Places)} {
		b = binary.LittleEndian.AppendUint32(b, uint32(v))
	}
	for _, p := range x.Places {
		b = append(b, byte(p), byte(p>>8), byte(p>>16), byte(p>>24), byte(p>>32))
	}
	return b
}

// bytesOf are a tail's bytes.
func bytesOf(x api.Tail) []byte {
	return summed(laid(x))
}

// isSame tells whether two tails are the same, as the words say it.
func isSame(a, b api.Tail) bool {
	if a.Count != b.Count || a.Sum != b.Sum || len(a.Places) != len(b.Places) {
		return false
	}
	for i := range a.Places {
		if a.Places[i] != b.Places[i] {
			return false
		}
	}
	return true
}

// gets fails, if another tail is got of these bytes, or another number of them.
func gets(t *testing.T, table *crc.Table, b []byte, want api.Tail, long int) {
	t.Helper()
	x, n, e := tail.Get(table, b)
	if e != api.OK || n != long || !isSame(x, want) {
		t.Fatalf("of %d bytes: %d bytes, error %d, %d places, not %d bytes, %d places", len(b), n, e, len(x.Places), long, len(want.Places))
	}
}

// puts fails, if a right tail has other bytes, or is not got of them, whatever stands behind them.
func puts(t *testing.T, x api.Tail, want []byte) {
	t.Helper()
	table, was := crc.Make(), slices.Clone(x.Places)
	b, e := tail.Put(table, x)
	if e != api.OK || !bytes.Equal(b, want) {
		t.Fatalf("%d places: %d bytes, error %d, not %d bytes", len(x.Places), len(b), e, len(want))
	}
	if !tail.Right(x) {
		t.Fatalf("%d places: not right", len(x.Places))
	}
	for _, behind := range [][]byte{nil, {0}, {'E'}, want[:min(len(want), 100)], make([]byte, 100)} {
		gets(t, table, slices.Concat(want, behind), x, len(want))
	}
	if !slices.Equal(x.Places, was) {
		t.Fatal("places have changed")
	}
}

// putsNone fails, if a tail that is not right has bytes.
func putsNone(t *testing.T, x api.Tail) {
	t.Helper()
	if b, e := tail.Put(crc.Make(), x); e != api.ErrTail || len(b) > 0 {
		t.Fatalf("count %d, %d places: %d bytes, error %d", x.Count, len(x.Places), len(b), e)
	}
	if tail.Right(x) {
		t.Fatalf("count %d, %d places: right", x.Count, len(x.Places))
	}
	if b, e := tail.Put(nil, x); e != api.ErrNil || len(b) > 0 {
		t.Fatalf("no table: %d bytes, error %d", len(b), e)
	}
}

// judged fails, if a tail is told to be right though it is not, or the other way round; and tells.
func judged(t *testing.T, x api.Tail) bool {
	t.Helper()
	if isRight(x) {
		puts(t, x, bytesOf(x))
		return true
	}
	putsNone(t, x)
	for block := range 3 {
		want := api.ErrTail
		if block == 0 {
			want = api.ErrArg
		}
		seeksNone(t, x, block, 0, want)
	}
	return false
}

// refuses fails, if a tail is got of these bytes, or there is another error.
func refuses(t *testing.T, table *crc.Table, b []byte, want api.Errno) {
	t.Helper()
	if x, n, e := tail.Get(table, b); e != want || n != 0 || x.Count != 0 || x.Sum != 0 || len(x.Places) > 0 {
		t.Fatalf("%d bytes, % X: count %d, %d places, %d bytes, error %d, not %d", len(b), b[:min(len(b), 40)], x.Count, len(x.Places), n, e, want)
	}
}

// seeks fails, if a sample stands elsewhere.
func seeks(t *testing.T, x api.Tail, block, p int, want [3]int) {
	t.Helper()
	i, at, ahead, e := tail.Seek(x, block, p)
	if e != api.OK || [3]int{i, at, ahead} != want {
		t.Fatalf("sample %d of %d in blocks of %d: %d, %d, %d, error %d, not %d", p, x.Count, block, i, at, ahead, e, want)
	}
}

// seeksNone fails, if a sample stands anywhere, or there is another error.
func seeksNone(t *testing.T, x api.Tail, block, p int, want api.Errno) {
	t.Helper()
	i, at, ahead, e := tail.Seek(x, block, p)
	if e != want || i != 0 || at != 0 || ahead != 0 {
		t.Fatalf("sample %d of %d in blocks of %d: %d, %d, %d, error %d, not %d", p, x.Count, block, i, at, ahead, e, want)
	}
}

// P28.1, P28.2, P28.3: tails by hand.
func TestByHand(t *testing.T) {
	for _, c := range []struct {
		x    api.Tail
		want []byte
	}{
		{
			api.Tail{},
			[]byte{
				0x45, 0x4E, 0, 0, 0, 0, 0, 0, 0, 0, 0, 0, 0, 0,
				0x40, 0x7D, 0xCA, 0x53,
			},
		},
		{
			api.Tail{Count: 600, Sum: 0x04030201, Places: []int{26, 0x0504030201, past - 1}},
			[]byte{
				0x45, 0x4E, 0x58, 0x02, 0x00, 0x00, 0x01, 0x02, 0x03, 0x04, 0x03, 0x00, 0x00, 0x00,
				0x1A, 0x00, 0x00, 0x00, 0x00,
				0x01, 0x02, 0x03, 0x04, 0x05,
				0xFF, 0xFF, 0xFF, 0xFF, 0xFF,
				0xCD, 0x44, 0xF2, 0xF8,
			},
		},
		{
			api.Tail{Count: mostCount, Sum: someSum, Places: []int{0}},
			[]byte{
				0x45, 0x4E, 0xFF, 0xFF, 0xFF, 0xFF, 0x26, 0x39, 0xF4, 0xCB, 0x01, 0x00, 0x00, 0x00,
				0x00, 0x00, 0x00, 0x00, 0x00,
				0x10, 0xA9, 0x1F, 0x08,
			},
		},
	} {
		if !bytes.Equal(bytesOf(c.x), c.want) {
			t.Errorf("the model of %+v: % X", c.x, bytesOf(c.x))
		}
		puts(t, c.x, c.want)
	}
}

// P28.1: tails that are right, and such that are not, by hand.
func TestRightByHand(t *testing.T) {
	for _, c := range []struct {
		x    api.Tail
		want bool
	}{
		{api.Tail{}, true},
		{api.Tail{Count: -1}, false},
		{api.Tail{Count: math.MinInt}, false},
		{api.Tail{Count: mostCount}, true},
		{api.Tail{Count: mostCount + 1}, false},
		{api.Tail{Count: math.MaxInt}, false},
		{api.Tail{Sum: math.MaxUint32, Places: []int{}}, true},
		{api.Tail{Places: []int{0}}, true},
		{api.Tail{Places: []int{-1}}, false},
		{api.Tail{Places: []int{math.MinInt}}, false},
		{api.Tail{Places: []int{past - 1}}, true},
		{api.Tail{Places: []int{past}}, false},
		{api.Tail{Places: []int{math.MaxInt}}, false},
		{api.Tail{Places: []int{0, 1}}, true},
		{api.Tail{Places: []int{0, 0}}, false},
		{api.Tail{Places: []int{1, 0}}, false},
		{api.Tail{Places: []int{-1, 0}}, false},
		{api.Tail{Places: []int{0, past}}, false},
		{api.Tail{Places: []int{past - 1, past}}, false},
		{api.Tail{Places: []int{past - 1, past - 1}}, false},
		{api.Tail{Places: []int{past, 1}}, false},
		{api.Tail{Places: []int{math.MaxInt, math.MinInt}}, false},
		{api.Tail{Places: []int{math.MaxInt, 0}}, false},
		{api.Tail{Places: []int{0, 5, 3, 7}}, false},
		{api.Tail{Places: []int{0, 5, 5, 7}}, false},
		{api.Tail{Places: []int{0, 5, 7, 3}}, false},
		{api.Tail{Places: []int{0, 5, 6, 7}}, true},
		{api.Tail{Count: -1, Places: []int{0, 5, 6, 7}}, false},
	} {
		if isRight(c.x) != c.want {
			t.Errorf("the model of %+v: not %t", c.x, c.want)
		}
		judged(t, c.x)
	}
}

// P28.1, P28.2: each place as whatever number around the others, and around the ends.
func TestRightEdges(t *testing.T) {
	edges := []int{math.MinInt, math.MinInt + 1, -1 << 40, -2, -1, 0, 1, 2, 25, 26, 27, 299, 300, 301, 511, 512, 513, 1 << 32, past - 2, past - 1, past, past + 1, past + 26, math.MaxInt - 1, math.MaxInt}
	count := make(map[bool]int)
	for _, x := range plain() {
		for place := range x.Places {
			for _, v := range edges {
				one := x
				one.Places = slices.Clone(x.Places)
				one.Places[place] = v
				count[judged(t, one)]++
				for other := range place {
					for _, w := range edges {
						two := one
						two.Places = slices.Clone(one.Places)
						two.Places[other] = w
						count[judged(t, two)]++
					}
				}
			}
		}
		for _, v := range append(edges, mostCount-1, mostCount, mostCount+1, mostCount+2, 1<<33) {
			x.Count = v
			count[judged(t, x)]++
		}
	}
	if count[true] < 300 || count[false] < 300 {
		t.Error(count)
	}
}

// P28.1: all lists of few small places.
func TestRightOfAll(t *testing.T) {
	var l []int
	var grow func()
	count := make(map[bool]int)
	grow = func() {
		count[judged(t, api.Tail{Count: 3, Places: l})]++
		if len(l) == 4 {
			return
		}
		for v := -1; v < 5; v++ {
			l = append(l, v)
			grow()
			l = l[:len(l)-1]
		}
	}
	grow()
	// As many as there are ways to take up to four of five numbers.
	if count[true] != 1+5+10+10+5 {
		t.Error(count)
	}
}

// P28.2, P28.3, P28.6: tails of all kinds.
func TestThereAndBack(t *testing.T) {
	x := noise(1)
	for range 3000 {
		y := x.tail(40)
		puts(t, y, bytesOf(y))
	}
	for n := range 300 {
		y := x.whole(n*256, 256)
		if puts(t, y, bytesOf(y)); len(y.Places) != n {
			t.Fatal(len(y.Places))
		}
	}
}

// P28.3: bytes that are cut off; of the first two ones it is told if they are others.
func TestCutOff(t *testing.T) {
	table := crc.Make()
	refuses(t, table, nil, api.ErrEnd)
	refuses(t, table, []byte{}, api.ErrEnd)
	for _, x := range plain() {
		b := bytesOf(x)
		for n := range b {
			refuses(t, table, b[:n], api.ErrEnd)
			refuses(t, table, b[:n:n], api.ErrEnd)
			for place := range min(n, 2) {
				for change := 1; change < 256; change++ {
					other := slices.Clone(b[:n])
					other[place] ^= byte(change)
					refuses(t, table, other, api.ErrKind)
				}
			}
		}
	}
	for one := range 256 {
		if one != 'E' {
			refuses(t, table, []byte{byte(one)}, api.ErrKind)
		}
		for two := range 256 {
			want := api.ErrKind
			if one == 'E' && two == 'N' {
				want = api.ErrEnd
			}
			refuses(t, table, []byte{byte(one), byte(two)}, want)
			refuses(t, table, append([]byte{byte(one), byte(two)}, make([]byte, 15)...), want)
		}
	}
}

// P28.3: a byte short, though it would be 0, as what is missing is none.
func TestOneShort(t *testing.T) {
	found := 0
	for count := range 4000 {
		for _, x := range []api.Tail{{Count: count}, {Count: count, Places: []int{3, 9}}} {
			if b := bytesOf(x); b[len(b)-1] == 0 {
				refuses(t, crc.Make(), b[:len(b)-1], api.ErrEnd)
				refuses(t, crc.Make(), b[:len(b)-1:len(b)-1], api.ErrEnd)
				puts(t, x, b)
				found++
			}
		}
	}
	if found < 5 {
		t.Error("few sums end with 0:", found)
	}
}

// P28.3: with a byte changed no tail is read.
func TestChangedByte(t *testing.T) {
	table, x := crc.Make(), noise(2)
	for _, y := range append(plain(), x.tail(5), x.tail(5)) {
		b := bytesOf(y)
		long := len(b)
		// Room behind it, so that with more places no end is met.
		b = append(b, make([]byte, 256*placeLong)...)
		for place := range b[:long+3] {
			for change := 1; change < 256; change++ {
				b[place] ^= byte(change)
				switch {
				case place < 2:
					refuses(t, table, b, api.ErrKind)
				case first-4 <= place && place < first:
					refuses(t, table, b, wantOf(b))
				case place < long:
					refuses(t, table, b, api.ErrSum)
				default:
					gets(t, table, b, y, long)
				}
				b[place] ^= byte(change)
			}
		}
	}
}

// wantOf is why a tail is refused whose sum is another one, by the number of places that it says.
func wantOf(b []byte) api.Errno {
	switch n := int(binary.LittleEndian.Uint32(b[first-4 : first])); {
	case n > most:
		return api.ErrTail
	case first+n*placeLong+sumLong > len(b):
		return api.ErrEnd
	}
	return api.ErrSum
}

// P28.3, P28.6: tails whose places do not rise, though their sums are right; in the order in which errors are named.
func TestGetWrong(t *testing.T) {
	table, x := crc.Make(), noise(3)
	count := make(map[api.Errno]int)
	for range 20000 {
		y := x.tail(6)
		if n := len(y.Places); n > 0 && x.next(3) > 0 {
			y.Places[x.next(n)] = y.Places[x.next(n)]
		}
		if n := len(y.Places); n > 0 && x.next(3) == 0 {
			y.Places[x.next(n)] = x.upTo(past - 1)
		}
		b := bytesOf(y)
		if isRight(y) {
			puts(t, y, b)
			count[api.OK]++
			continue
		}
		count[api.ErrTail]++
		refuses(t, table, b, api.ErrTail)
		refuses(t, table, append(slices.Clone(b), 1, 2, 3), api.ErrTail)
		refuses(t, table, b[:len(b)-1], api.ErrEnd)
		b[len(b)-1-x.next(sumLong)] ^= byte(1 + x.next(255))
		refuses(t, table, b, api.ErrSum)
		refuses(t, table, b[:len(b)-1], api.ErrEnd)
		refuses(t, nil, b, api.ErrNil)
		b[x.next(2)] ^= byte(1 + x.next(255))
		refuses(t, table, b, api.ErrKind)
		refuses(t, table, b[:len(b)-1], api.ErrKind)
		refuses(t, nil, b, api.ErrNil)
	}
	if count[api.OK] < 1000 || count[api.ErrTail] < 1000 {
		t.Error(count)
	}
}

// P28.3: more places than there may be are told ahead of the end, but not ahead of their number's own end.
func TestTooManyToGet(t *testing.T) {
	table := crc.Make()
	for _, n := range []int{most + 1, most + 2, most + 256, 1 << 25, 1 << 28, 1<<31 - 1, 1 << 31, 1<<32 - 1} {
		b := laid(api.Tail{Count: 5})
		binary.LittleEndian.PutUint32(b[first-4:], uint32(n))
		refuses(t, table, b, api.ErrTail)
		refuses(t, table, b[:first:first], api.ErrTail)
		refuses(t, table, summed(b), api.ErrTail)
		refuses(t, table, append(b, make([]byte, 1000)...), api.ErrTail)
		refuses(t, nil, b, api.ErrNil)
		for cut := range first {
			refuses(t, table, b[:cut], api.ErrEnd)
			refuses(t, table, b[:cut:cut], api.ErrEnd)
		}
		b[1] = 'M'
		refuses(t, table, b, api.ErrKind)
	}
	for _, n := range []int{1, 2, 255, 256, 65536, 1 << 20, most - 1, most} {
		b := laid(api.Tail{Count: 5})
		binary.LittleEndian.PutUint32(b[first-4:], uint32(n))
		refuses(t, table, b, api.ErrEnd)
		refuses(t, table, append(b, 1, 2, 3, 4, 5, 6, 7, 8), api.ErrEnd)
	}
}

// P28.1, P28.2, P28.3: as many places as there may be, and one more.
func TestMostPlaces(t *testing.T) {
	table := crc.Make()
	x := api.Tail{Count: mostCount, Sum: someSum, Places: make([]int, most+1)}
	for i := range x.Places {
		x.Places[i] = i*65535 + i%7
	}
	putsNone(t, x)
	seeksNone(t, x, 256, 0, api.ErrTail)
	long := bytesOf(x)
	refuses(t, table, long, api.ErrTail)
	refuses(t, table, long[:len(long)-1], api.ErrTail)

	x.Places = x.Places[:most]
	if !isRight(x) || !tail.Right(x) {
		t.Fatal("not right")
	}
	want := bytesOf(x)
	b, e := tail.Put(table, x)
	if e != api.OK || !bytes.Equal(b, want) {
		t.Fatal(len(b), e)
	}
	gets(t, table, append(b, 1, 2, 3), x, len(want))
	refuses(t, table, want[:len(want)-1], api.ErrEnd)
	want[len(want)-5] ^= 1
	refuses(t, table, want, api.ErrSum)
	seeks(t, x, 256, mostCount, [3]int{most, 0, 0})
	seeks(t, x, 256, mostCount-1, [3]int{most - 1, x.Places[most-1], 254})
	x.Places[most-1] = x.Places[most-2]
	putsNone(t, x)
	refuses(t, table, bytesOf(x), api.ErrTail)
}

// P28.3: the sum is that of all bytes ahead of it, and of them alone.
func TestSumIsOfAll(t *testing.T) {
	table := crc.Make()
	for _, x := range plain() {
		b := laid(x)
		for _, part := range [][]byte{b[2:], b[:len(b)-1], b[:first-4], summed(b), nil} {
			other := binary.LittleEndian.AppendUint32(slices.Clone(b), crc32.ChecksumIEEE(part))
			refuses(t, table, other, api.ErrSum)
		}
		if s := crc32.ChecksumIEEE(b); s != 0 {
			refuses(t, table, binary.BigEndian.AppendUint32(slices.Clone(b), s), api.ErrSum)
			refuses(t, table, binary.LittleEndian.AppendUint32(slices.Clone(b), 0), api.ErrSum)
		}
	}
}

// P28.2, P28.3: without a table there is nothing.
func TestNoTable(t *testing.T) {
	for _, x := range append(plain(), api.Tail{Count: -1}, api.Tail{Places: []int{-1}}) {
		for _, b := range [][]byte{nil, {}, {0}, []byte("EN"), bytesOf(x)[:12], bytesOf(x)} {
			refuses(t, nil, b, api.ErrNil)
		}
		if b, e := tail.Put(nil, x); e != api.ErrNil || len(b) > 0 {
			t.Fatal(b, e)
		}
	}
}

// P28.3: whatever bytes.
func TestWhateverBytes(t *testing.T) {
	table, x := crc.Make(), noise(4)
	count := make(map[api.Errno]int)
	for range 30000 {
		b := x.bytes(x.next(60))
		if x.next(4) > 0 {
			copy(b, "EN")
		}
		if len(b) >= first && x.next(3) > 0 {
			binary.LittleEndian.PutUint32(b[first-4:], uint32(x.next(8)))
		}
		want := api.ErrEnd
		switch {
		case len(b) > 0 && b[0] != 'E' || len(b) > 1 && b[1] != 'N':
			want = api.ErrKind
		case len(b) >= first:
			want = wantOf(b)
		}
		refuses(t, table, b, want)
		count[want]++
	}
	for _, e := range []api.Errno{api.ErrKind, api.ErrEnd, api.ErrTail, api.ErrSum} {
		if count[e] < 300 {
			t.Error(count)
		}
	}
}

// P28.1: tails that are the same, and such that are not.
func TestSame(t *testing.T) {
	same := func(a, b api.Tail, want bool) {
		t.Helper()
		if tail.Same(a, b) != want || tail.Same(b, a) != want || isSame(a, b) != want {
			t.Fatalf("%+v, %+v: not %t", a, b, want)
		}
	}
	same(api.Tail{}, api.Tail{Places: []int{}}, true)
	same(api.Tail{Count: -1, Places: []int{3, -2}}, api.Tail{Count: -1, Places: []int{3, -2}}, true)
	same(api.Tail{Count: -1}, api.Tail{Count: 1}, false)
	for _, a := range plain() {
		for _, b := range plain() {
			same(a, b, isSame(a, b))
		}
		b := a
		b.Places = slices.Clone(a.Places)
		same(a, b, true)
		b.Count++
		same(a, b, false)
		b.Count -= 1 + 1<<32
		same(a, b, false)
		b.Count = a.Count
		for bit := range 32 {
			b.Sum ^= 1 << bit
			same(a, b, false)
			b.Sum ^= 1 << bit
		}
		for i := range b.Places {
			for _, change := range []int{1, 1 << 32, 1 << 40, math.MinInt} {
				b.Places[i] ^= change
				same(a, b, false)
				b.Places[i] ^= change
			}
			short := b
			short.Places = slices.Delete(slices.Clone(b.Places), i, i+1)
			same(a, short, false)
		}
		b.Places = append(b.Places, 0)
		same(a, b, false)
	}
	same(api.Tail{Places: []int{1, 2}}, api.Tail{Places: []int{2, 1}}, false)
}

// asks fails, if there is another number of blocks, or one of them has another length; in numbers without end.
func asks(t *testing.T, count, block int) {
	t.Helper()
	n := tail.Blocks(count, block)
	if count < 0 || count > mostCount || block < 1 || block > 65536 {
		for _, i := range []int{-1, 0, 1, 2} {
			if l := tail.Length(count, block, i); n != 0 || l != 0 {
				t.Fatalf("%d in blocks of %d: %d, the length of %d %d", count, block, n, i, l)
			}
		}
		return
	}
	// The least n for which n blocks have room for all samples.
	if n < 0 || n*block < count || n > 0 && (n-1)*block >= count {
		t.Fatalf("%d in blocks of %d: %d", count, block, n)
	}
	for _, i := range []int{math.MinInt, math.MinInt + 1, -1 << 48, -1 << 32, -2, -1, 0, 1, 2, 3, n / 2, n - 2, n - 1, n, n + 1, 2 * n, 1 << 31, 1 << 32, 1<<47 - 1, 1 << 47, 1 << 48, 1 << 56, 1 << 62, 1<<63 - 1, (1 << 62) / block, math.MaxInt / block, math.MaxInt/block + 1} {
		left := new(big.Int).Mul(big.NewInt(int64(i)), big.NewInt(int64(block)))
		left.Sub(big.NewInt(int64(count)), left)
		want := 0
		if i >= 0 && left.Sign() > 0 {
			want = block
			if left.Cmp(big.NewInt(int64(block))) < 0 {
				want = int(left.Int64())
			}
		}
		if l := tail.Length(count, block, i); l != want || (l > 0) != (0 <= i && i < n) {
			t.Fatalf("%d in blocks of %d: the length of %d %d, not %d", count, block, i, l, want)
		}
	}
}

// P28.4, and the chapter's example: blocks by hand.
func TestBlocksByHand(t *testing.T) {
	for _, c := range [][]int{
		{600, 256, 3, 256, 256, 88, 0},
		{0, 256, 0, 0, 0, 0, 0},
		{1, 256, 1, 1, 0, 0, 0},
		{256, 256, 1, 256, 0, 0, 0},
		{257, 256, 2, 256, 1, 0, 0},
		{4, 1, 4, 1, 1, 1, 1},
		{65537, 65536, 2, 65536, 1, 0, 0},
		{mostCount, 65536, 65536, 65536, 65536, 65536, 65536},
		{mostCount, 1, mostCount, 1, 1, 1, 1},
		{-1, 256, 0, 0, 0, 0, 0},
		{mostCount + 1, 256, 0, 0, 0, 0, 0},
		{600, 0, 0, 0, 0, 0, 0},
		{600, -256, 0, 0, 0, 0, 0},
		{600, 65537, 0, 0, 0, 0, 0},
	} {
		if n := tail.Blocks(c[0], c[1]); n != c[2] {
			t.Errorf("%d in blocks of %d: %d, not %d", c[0], c[1], n, c[2])
		}
		for i, want := range c[3:] {
			if l := tail.Length(c[0], c[1], i); l != want {
				t.Errorf("%d in blocks of %d: the length of %d %d, not %d", c[0], c[1], i, l, want)
			}
		}
	}
	if l := tail.Length(mostCount, 65536, 65535); l != 65535 {
		t.Error("the last of very many:", l)
	}
	if l := tail.Length(mostCount, 65536, 65536); l != 0 {
		t.Error("behind the last of very many:", l)
	}
	if l := tail.Length(mostCount, 1, mostCount-1); l != 1 {
		t.Error("the last of very many of one sample:", l)
	}
}

// P28.4, P28.7: all blocks together have all samples, and all but the last one are as long as they may be.
func TestBlocksTogether(t *testing.T) {
	for count := range 700 {
		for block := 1; block < 300; block++ {
			n, left := 0, count
			for left > 0 {
				l := min(left, block)
				if got := tail.Length(count, block, n); got != l {
					t.Fatalf("%d in blocks of %d: the length of %d %d, not %d", count, block, n, got, l)
				}
				left -= l
				n++
			}
			if got := tail.Blocks(count, block); got != n || tail.Length(count, block, n) != 0 {
				t.Fatalf("%d in blocks of %d: %d, not %d", count, block, got, n)
			}
		}
	}
}

// P28.4: counts and blocks at each end, and of all sizes.
func TestBlocksEdges(t *testing.T) {
	counts := []int{math.MinInt, math.MinInt + 1, -1 << 32, -65536, -2, -1, 0, 1, 2, 3, 255, 256, 257, 65534, 65535, 65536, 65537, 65538, 131072, 1<<31 - 1, 1 << 31, mostCount - 65536, mostCount - 65535, mostCount - 1, mostCount, mostCount + 1, mostCount + 2, 1 << 33, 1 << 48, 1 << 62, math.MaxInt - 65536, math.MaxInt - 1, math.MaxInt}
	blocks := append(slices.Clone(counts), 255, 256, 257, 4096, 65533, 1<<16+256, 1<<32+256)
	for _, count := range counts {
		for _, block := range blocks {
			asks(t, count, block)
		}
	}
	x := noise(5)
	for range 30000 {
		asks(t, x.upTo(mostCount+3), x.upTo(65537))
	}
}

// P28.5, P28.7: each sample of small tails, block by block.
func TestSeek(t *testing.T) {
	x := noise(6)
	for _, block := range []int{1, 2, 3, 7, 16, 255, 256} {
		for count := range 3*block + 2 {
			y := x.whole(count, block)
			was := slices.Clone(y.Places)
			p := 0
			for i, at := range y.Places {
				for ahead := range tail.Length(count, block, i) {
					seeks(t, y, block, p, [3]int{i, at, ahead})
					p++
				}
			}
			if p != count {
				t.Fatal(p, count)
			}
			seeks(t, y, block, count, [3]int{len(y.Places), 0, 0})
			for _, p := range []int{math.MinInt, -1 << 32, -block, -2, -1, count + 1, count + 2, count + block, mostCount + 1, 1 << 62, math.MaxInt} {
				seeksNone(t, y, block, p, api.ErrSeek)
			}
			if !slices.Equal(y.Places, was) {
				t.Fatal("places have changed")
			}
		}
	}
}

// P28.5: tails that have not as many places as blocks, and errors in their order.
func TestSeekWrong(t *testing.T) {
	y := noise(7)
	x := y.whole(600, 256)
	more, fewer, none := x, x, x
	more.Places = append(slices.Clone(x.Places), 1<<30)
	fewer.Places = x.Places[:2]
	none.Places = nil
	wrong := x
	wrong.Places = []int{7, 7, 8}
	great := x
	great.Places = []int{7, 8, past}
	below := api.Tail{Count: -1}
	beyond := api.Tail{Count: mostCount + 1}
	for _, block := range []int{math.MinInt, -256, -1, 0, 65537, 65538, 1<<32 + 256, math.MaxInt} {
		for _, x := range []api.Tail{x, more, wrong, below, {}} {
			for _, p := range []int{0, -1, 600, 601} {
				seeksNone(t, x, block, p, api.ErrArg)
			}
		}
	}
	for _, x := range []api.Tail{more, fewer, none, wrong, great, below, beyond} {
		for _, p := range []int{math.MinInt, -1, 0, 1, 599, 600, 601, math.MaxInt} {
			seeksNone(t, x, 256, p, api.ErrTail)
		}
	}
	// There are as many places as blocks from 200 to 299 samples.
	for block := 1; block < 700; block++ {
		if block < 200 || block > 299 {
			seeksNone(t, x, block, 0, api.ErrTail)
			seeksNone(t, x, block, 601, api.ErrTail)
			continue
		}
		seeks(t, x, block, 599, [3]int{2, x.Places[2], 599 - 2*block})
		seeks(t, x, block, 2*block, [3]int{2, x.Places[2], 0})
		seeks(t, x, block, 2*block-1, [3]int{1, x.Places[1], block - 1})
		seeksNone(t, x, block, 601, api.ErrSeek)
	}
	for _, block := range []int{1, 256, 65536} {
		seeks(t, api.Tail{Sum: 9}, block, 0, [3]int{})
		seeksNone(t, api.Tail{}, block, 1, api.ErrSeek)
		seeksNone(t, api.Tail{}, block, -1, api.ErrSeek)
		seeksNone(t, api.Tail{Places: []int{0}}, block, 0, api.ErrTail)
	}
}

// P28.5: as long sound as there may be, in as long blocks as there may be.
func TestSeekFar(t *testing.T) {
	x := noise(8)
	y := x.whole(mostCount, 65536)
	for range 1000 {
		p := x.upTo(mostCount - 1)
		seeks(t, y, 65536, p, [3]int{p >> 16, y.Places[p>>16], p & 0xFFFF})
	}
	seeks(t, y, 65536, mostCount, [3]int{65536, 0, 0})
	seeksNone(t, y, 65536, mostCount+1, api.ErrSeek)
	seeksNone(t, y, 65535, 0, api.ErrTail)
}

// P28.2, P28.3: a table that Make did not make says what its numbers say.
func TestStrangers(t *testing.T) {
	x := noise(9)
	wild, noughts, like := &crc.Table{}, &crc.Table{}, &crc.Table{}
	for place := range wild {
		wild[place] = uint32(x.next(1<<31) << 1)
		like[place] = crc.Make()[place]
	}
	for _, table := range []*crc.Table{wild, noughts, like} {
		kept := *table
		for range 200 {
			y := x.tail(20)
			want := binary.LittleEndian.AppendUint32(laid(y), table.Sum(laid(y)))
			if b, e := tail.Put(table, y); e != api.OK || !bytes.Equal(b, want) {
				t.Fatalf("% X, error %d, not % X", b, e, want)
			}
			gets(t, table, want, y, len(want))
			want[len(want)-2] ^= 1
			refuses(t, table, want, api.ErrSum)
		}
		if *table != kept {
			t.Error("the table has changed")
		}
	}
}

// P28.2, P28.3: what is answered is new memory, and what is handed in is neither changed nor kept.
func TestAnswersAreNew(t *testing.T) {
	table, x := crc.Make(), noise(10)
	for _, y := range plain() {
		// Room behind what is handed in is nobody's to write to.
		places := append(slices.Clone(y.Places), 1, 2, 3)
		handed := y
		handed.Places = places[:len(y.Places)]
		room := append(bytesOf(y), x.bytes(50)...)
		kept := slices.Clone(room)
		for range 2 {
			b, e := tail.Put(table, handed)
			if e != api.OK || !bytes.Equal(b, bytesOf(y)) {
				t.Fatal(b, e)
			}
			other, _ := tail.Put(table, handed)
			clear(b)
			_ = append(b, 1, 2, 3)
			got, _, e := tail.Get(table, room)
			again, _, _ := tail.Get(table, room)
			if e != api.OK || !isSame(got, y) || !bytes.Equal(other, bytesOf(y)) {
				t.Fatal(got, e, other)
			}
			clear(got.Places)
			_ = append(got.Places, 1, 2, 3)
			if !isSame(again, y) {
				t.Error("two answers share their memory")
			}
		}
		got, _, _ := tail.Get(table, room)
		if !bytes.Equal(room, kept) || !slices.Equal(places, append(slices.Clone(y.Places), 1, 2, 3)) || *table != *crc.Make() {
			t.Error("what was handed in has changed")
		}
		clear(room)
		if !isSame(got, y) {
			t.Error("what was handed in is kept")
		}
	}
}
