package crc_test

import (
	"bytes"
	"hash/crc32"
	"math"
	"testing"

	"descant/crc"
)

// noise is numbers that look like chance, and are the same ones at each run.
type noise uint64

func (x *noise) next() uint32 {
	*x = *x*6364136223846793005 + 1442695040888963407
	return uint32(*x >> 32)
}

func (x *noise) bytes(n int) []byte {
	b := make([]byte, n)
	for i := range b {
		b[i] = byte(x.next())
	}
	return b
}

func is(t *testing.T, of string, got, want uint32) {
	t.Helper()
	if got != want {
		t.Errorf("%s: %#x, not %#x", of, got, want)
	}
}

// numbers are some of each kind: the ends, single bits, and others.
func numbers() []uint32 {
	l := []uint32{0, 1, 2, 3, 0xFFFFFFFF, 0xFFFFFFFE, 0x7FFFFFFF, 0xCBF43926, 0xDEADBEEF}
	for bit := range 32 {
		l = append(l, 1<<bit)
	}
	x := noise(7)
	for range 50 {
		l = append(l, x.next())
	}
	return l
}

// step is a step, as the words say it.
func step(x uint32) uint32 {
	out := x % 2
	x /= 2
	if out == 1 {
		x ^= 0xEDB88320
	}
	return x
}

// eight is eight steps.
func eight(x uint32) uint32 {
	for range 8 {
		x = step(x)
	}
	return x
}

// slow is the sum of bytes, step by step.
func slow(b []byte) uint32 {
	x := uint32(0xFFFFFFFF)
	for _, c := range b {
		x = eight(x ^ uint32(c))
	}
	return x ^ 0xFFFFFFFF
}

// told is the sum of bytes behind sum, as the numbers of a table say it.
func told(t *crc.Table, sum uint32, b []byte) uint32 {
	x := sum ^ 0xFFFFFFFF
	for _, c := range b {
		place := (x ^ uint32(c)) % 256
		x = t[place] ^ x/256
	}
	return x ^ 0xFFFFFFFF
}

// P3.1
func TestStep(t *testing.T) {
	is(t, "Step(0)", crc.Step(0), 0)
	is(t, "Step(1)", crc.Step(1), 0xEDB88320)
	is(t, "Step(2)", crc.Step(2), 1)
	is(t, "Step(3)", crc.Step(3), 0xEDB88321)
	is(t, "Step(0xFFFFFFFF)", crc.Step(0xFFFFFFFF), 0x7FFFFFFF^0xEDB88320)
	for _, x := range numbers() {
		is(t, "Step", crc.Step(x), step(x))
	}
}

// P3.1
func TestMake(t *testing.T) {
	table := crc.Make()
	for place := range 256 {
		is(t, "a place", table[place], eight(uint32(place)))
	}
	is(t, "the place 0", table[0], 0)
	is(t, "the place 128", table[128], 0xEDB88320)
}

// P3.1: what is done to a table reaches no other one.
func TestTablesAreTheirOwn(t *testing.T) {
	one := crc.Make()
	clear(one[:])
	is(t, "another table", crc.Make()[1], eight(1))
}

// P3.2, and the chapter's examples.
func TestSum(t *testing.T) {
	table := crc.Make()
	is(t, "digits", table.Sum([]byte("123456789")), 0xCBF43926)
	is(t, "nil", table.Sum(nil), 0)
	is(t, "no bytes", table.Sum([]byte{}), 0)
	is(t, "a byte 0", table.Sum([]byte{0}), 0xD202EF8D)
	x := noise(1)
	for n := range 600 {
		b := x.bytes(n)
		is(t, "Sum", table.Sum(b), slow(b))
		is(t, "Sum, by the library", table.Sum(b), crc32.ChecksumIEEE(b))
	}
}

// P3.2
func TestNext(t *testing.T) {
	table := crc.Make()
	is(t, "no bytes behind none", table.Next(0), 0)
	is(t, "digits", table.Next(table.Sum([]byte("1234")), '5', '6', '7', '8', '9'), 0xCBF43926)
	x := noise(2)
	for _, sum := range numbers() {
		is(t, "nothing behind", table.Next(sum), sum)
		for n := range 20 {
			b := x.bytes(n)
			is(t, "Next", table.Next(sum, b...), told(table, sum, b))
			is(t, "Next, by the library", table.Next(sum, b...), crc32.Update(sum, crc32.IEEETable, b))
		}
	}
}

// P3.2: bytes that are handed in stay as they are, and so does the table.
func TestNothingIsChanged(t *testing.T) {
	table, b := crc.Make(), []byte("123456789")
	table.Sum(b)
	table.Next(5, b...)
	table.Zeros(5, 1<<40)
	if string(b) != "123456789" || *table != *crc.Make() {
		t.Error("changed")
	}
}

// P3.2, P3.3: of no table.
func TestNoTable(t *testing.T) {
	var none *crc.Table
	for _, n := range []int{math.MinInt, -1, 0, 1, 9, math.MaxInt} {
		is(t, "Zeros", none.Zeros(0xCBF43926, n), 0)
	}
	is(t, "Sum", none.Sum([]byte("123456789")), 0)
	is(t, "Sum of nothing", none.Sum(nil), 0)
	is(t, "Next", none.Next(0xCBF43926, 1, 2, 3), 0)
	is(t, "Next of nothing", none.Next(0xCBF43926), 0)
}

// strangers are tables that Make did not make: of the same numbers, of noughts alone, of numbers that go together in no way, and of Make's with one that is another.
func strangers() []*crc.Table {
	like, noughts, wild, changed, counted := *crc.Make(), crc.Table{}, crc.Table{}, *crc.Make(), crc.Table{}
	x := noise(3)
	for place := range wild {
		wild[place] = x.next()
		counted[place] = uint32(place)
	}
	changed[77] ^= 0x01000000
	return []*crc.Table{&like, &noughts, &wild, &changed, &counted}
}

// P3.2, P3.3: a table that Make did not make says what its numbers say.
func TestStrangers(t *testing.T) {
	x := noise(4)
	for _, table := range strangers() {
		for _, sum := range numbers() {
			b := x.bytes(40)
			is(t, "Sum", table.Sum(b), told(table, 0, b))
			is(t, "Next", table.Next(sum, b...), told(table, sum, b))
			for n := range 40 {
				is(t, "Zeros", table.Zeros(sum, n), told(table, sum, make([]byte, n)))
			}
		}
	}
	is(t, "digits", strangers()[0].Sum([]byte("123456789")), 0xCBF43926)
}

// P3.3: with a table whatever, very many bytes end, and are as many as they are.
func TestStrangersFar(t *testing.T) {
	for _, table := range strangers() {
		for _, sum := range []uint32{0, 1, 0xFFFFFFFF, 0xCBF43926} {
			is(t, "a million bytes", table.Zeros(sum, 1000000), told(table, sum, make([]byte, 1000000)))
			for _, n := range []int{1 << 33, 1<<62 - 12345, math.MaxInt - 3} {
				is(t, "in two goes", table.Zeros(table.Zeros(sum, n), 3), table.Zeros(sum, n+3))
			}
		}
	}
}

// P3.3
func TestZeros(t *testing.T) {
	table := crc.Make()
	for _, sum := range numbers() {
		for _, n := range []int{math.MinInt, -1 << 32, -9, -1} {
			is(t, "below 0", table.Zeros(sum, n), sum)
		}
		for n := range 300 {
			is(t, "Zeros", table.Zeros(sum, n), table.Next(sum, make([]byte, n)...))
		}
		for _, n := range []int{65535, 65536, 100003} {
			is(t, "Zeros", table.Zeros(sum, n), crc32.Update(sum, crc32.IEEETable, make([]byte, n)))
		}
	}
}

// round is after how many steps every number comes again; and, as it is odd, after how many bytes 0, too.
const round = 1<<32 - 1

// P3.3: very many bytes.
func TestZerosFar(t *testing.T) {
	table := crc.Make()
	is(t, "a whole round", table.Zeros(0x12345678, round), 0x12345678)
	is(t, "a round and one", table.Zeros(0, round+1), 0xD202EF8D)
	for _, sum := range numbers() {
		for _, n := range []int{1 << 31, 1 << 32, 1 << 33, 1<<40 + 977, 1 << 62, math.MaxInt - 1, math.MaxInt} {
			is(t, "rounds left out", table.Zeros(sum, n), table.Zeros(sum, n%round))
			is(t, "halves", table.Zeros(sum, n), table.Zeros(table.Zeros(sum, n/2), n-n/2))
		}
	}
	long := make([]byte, 1<<22)
	sum := uint32(0xCBF43926)
	for range 256 {
		sum = crc32.Update(sum, crc32.IEEETable, long)
	}
	is(t, "2^30 bytes", table.Zeros(0xCBF43926, 1<<30), sum)
}

// P3.3, P3.4
func TestJoin(t *testing.T) {
	table, x := crc.Make(), noise(5)
	is(t, "digits", crc.Join(table.Sum([]byte("1234")), table.Sum([]byte("56789")), 5), 0xCBF43926)
	for n := range 80 {
		for m := range 80 {
			a, b := x.bytes(n), x.bytes(m)
			is(t, "Join", crc.Join(table.Sum(a), table.Sum(b), m), slow(append(a, b...)))
		}
	}
}

// P3.3: no bytes, and fewer than none.
func TestJoinNone(t *testing.T) {
	for _, a := range numbers() {
		for _, n := range []int{0, -1, -1 << 40, math.MinInt} {
			is(t, "nothing behind", crc.Join(a, 0, n), a)
			is(t, "below 0, as 0", crc.Join(a, 0x00FF1234, n), crc.Join(a, 0x00FF1234, 0))
		}
	}
	table := crc.Make()
	is(t, "nothing ahead", crc.Join(0, table.Sum([]byte("123456789")), 9), 0xCBF43926)
}

// P3.3: very many bytes behind.
func TestJoinFar(t *testing.T) {
	table := crc.Make()
	for _, a := range numbers() {
		for _, n := range []int{1, 7, 1 << 20, 1<<31 - 1, 1 << 32, 1 << 62, math.MaxInt} {
			is(t, "bytes 0 behind", crc.Join(a, table.Zeros(0, n), n), table.Zeros(a, n))
		}
	}
}

// P3.4: sums of parts are the sum of the whole, wherever it is cut, and into how many parts.
func TestParts(t *testing.T) {
	table, x := crc.Make(), noise(6)
	whole := x.bytes(300)
	want := slow(whole)
	for cut := range len(whole) + 1 {
		a, b := whole[:cut], whole[cut:]
		is(t, "Next", table.Next(table.Sum(a), b...), want)
		is(t, "Join", crc.Join(table.Sum(a), table.Sum(b), len(b)), want)
	}
	for size := 1; size < 50; size++ {
		next, join := uint32(0), uint32(0)
		for at := 0; at < len(whole); at += size {
			piece := whole[at:min(at+size, len(whole))]
			next = table.Next(next, piece...)
			join = crc.Join(join, table.Sum(piece), len(piece))
		}
		is(t, "pieces, Next", next, want)
		is(t, "pieces, Join", join, want)
	}
}

// P3.5: a byte that is changed changes the sum.
func TestChangedByte(t *testing.T) {
	table, x := crc.Make(), noise(8)
	for _, b := range [][]byte{{0}, bytes.Repeat([]byte{0}, 33), x.bytes(100)} {
		want := table.Sum(b)
		for at := range b {
			for change := 1; change < 256; change++ {
				b[at] ^= byte(change)
				if table.Sum(b) == want {
					t.Fatal("the same sum", at, change)
				}
				b[at] ^= byte(change)
			}
		}
	}
}
