package pcm_test

import (
	"bytes"
	"encoding/binary"
	"hash/crc32"
	"math"
	"slices"
	"testing"

	"descant/api"
	"descant/crc"
	"descant/pcm"
)

// noise is numbers that look like chance, and are the same ones at each run.
type noise uint64

func (x *noise) next(n int) int {
	*x = *x*6364136223846793005 + 1442695040888963407
	return int(*x >> 33 % noise(n))
}

// list is n samples of so many bits, the least and the greatest ones among them.
func (x *noise) list(bits, n int) []int {
	lo, hi := ends(bits)
	l := make([]int, n)
	for i := range l {
		switch i % 7 {
		case 3:
			l[i] = lo
		case 5:
			l[i] = hi
		default:
			l[i] = lo + x.next(hi-lo+1)
		}
	}
	return l
}

// sound is right sound of n frames.
func (x *noise) sound(channels, bits, n int) api.Sound {
	s := api.Sound{Format: made(channels, bits, 8000+channels)}
	for range channels {
		s.Samples = append(s.Samples, x.list(bits, n))
	}
	return s
}

// made is a format.
func made(channels, bits, rate int) api.Format {
	return api.Format{Channels: channels, Bits: bits, Rate: rate}
}

// ends are the least and the greatest sample of so many bits.
func ends(bits int) (int, int) {
	return -1 << (bits - 1), 1<<(bits-1) - 1
}

// of is sound of one channel or more, 8 bits.
func of(lists ...[]int) api.Sound {
	return api.Sound{Format: made(len(lists), 8, 8000), Samples: lists}
}

// copied is the same sound in memory of its own.
func copied(s api.Sound) api.Sound {
	c := api.Sound{Format: s.Format}
	for _, l := range s.Samples {
		c.Samples = append(c.Samples, slices.Clone(l))
	}
	return c
}

// alike tells whether two sounds are the same, list by list.
func alike(a, b api.Sound) bool {
	return a.Format == b.Format && slices.EqualFunc(a.Samples, b.Samples, func(l, m []int) bool { return slices.Equal(l, m) })
}

// is fails, if another error, or other sound, is answered; with an error it must be none.
func is(t *testing.T, name string, got api.Sound, e api.Errno, want api.Sound, wanted api.Errno) {
	t.Helper()
	if e != wanted || !alike(got, want) {
		t.Errorf("%s: error %d, not %d; %v, not %v", name, e, wanted, brief(got), brief(want))
	}
	if e == api.OK && pcm.Check(got) != api.OK {
		t.Errorf("%s: not right: %d", name, pcm.Check(got))
	}
}

// brief is sound that is not too long to be read.
func brief(s api.Sound) api.Sound {
	c := copied(s)
	for i, l := range c.Samples {
		c.Samples[i] = l[:min(len(l), 9)]
	}
	return c
}

// scribble writes over all that sound has, also behind the ends of its lists.
func scribble(s api.Sound) {
	for i, l := range s.Samples {
		l = l[:cap(l)]
		for j := range l {
			l[j] = 1000*i + j
		}
	}
	s.Samples = s.Samples[:cap(s.Samples)]
	clear(s.Samples)
}

// own fails, if sound that was answered shares memory with what was handed in, or its lists with one another.
func own(t *testing.T, name string, got api.Sound, given ...api.Sound) {
	t.Helper()
	var kept []api.Sound
	for _, g := range given {
		kept = append(kept, copied(g))
	}
	lists := slices.Clone(got.Samples)
	scribble(got)
	for i, g := range given {
		if !alike(g, kept[i]) {
			t.Errorf("%s: shares memory with what was handed in", name)
		}
	}
	for i, l := range lists {
		for j, x := range l {
			if x != 1000*i+j {
				t.Errorf("%s: two lists share memory", name)
				return
			}
		}
	}
}

// formats are right ones, the ends among them.
func formats() []api.Format {
	return []api.Format{made(1, 8, 1), made(8, 24, 1<<20-1), made(1, 24, 1), made(8, 8, 1), made(1, 8, 1<<20-1), made(2, 16, 44100), made(6, 20, 96000)}
}

// wrongFormats have one number, or more, that may not be.
func wrongFormats() []api.Format {
	return []api.Format{
		{}, made(0, 8, 1), made(9, 8, 1), made(-1, 8, 1), made(1, 7, 1), made(1, 25, 1), made(1, 0, 1), made(1, -8, 1), made(1, 8, 0), made(1, 8, 1<<20), made(1, 8, -1),
		made(math.MinInt, 8, 1), made(math.MaxInt, 8, 1), made(1, math.MinInt, 1), made(1, math.MaxInt, 1), made(1, 8, math.MinInt), made(1, 8, math.MaxInt),
		made(9, 25, 1<<20), made(1<<32, 8, 1), made(1<<32+1, 8, 1), made(math.MinInt, math.MinInt, math.MinInt),
	}
}

// P5.1
func TestRight(t *testing.T) {
	for _, f := range formats() {
		if !pcm.Right(f) {
			t.Error("refused", f)
		}
	}
	for _, f := range wrongFormats() {
		if pcm.Right(f) {
			t.Error("taken", f)
		}
	}
	for c := -2; c < 12; c++ {
		for b := -2; b < 40; b++ {
			if got, want := pcm.Right(made(c, b, 8000)), 1 <= c && c <= 8 && 8 <= b && b <= 24; got != want {
				t.Error(c, b, got)
			}
		}
	}
}

// P5.1: right sound.
func TestCheck(t *testing.T) {
	x := noise(1)
	for channels := 1; channels <= 8; channels++ {
		for bits := 8; bits <= 24; bits++ {
			for _, n := range []int{0, 1, 2, 50} {
				if e := pcm.Check(x.sound(channels, bits, n)); e != api.OK {
					t.Error(channels, bits, n, e)
				}
			}
			s := api.Sound{Format: made(channels, bits, 1), Samples: make([][]int, channels)}
			if e := pcm.Check(s); e != api.OK {
				t.Error("lists that are nil", e)
			}
		}
	}
}

// P5.1: what is wrong, and in which order that is looked for.
func TestCheckErrors(t *testing.T) {
	for _, f := range wrongFormats() {
		for _, lists := range [][][]int{nil, {{}}, {{1}, {1, 2}}, {{math.MaxInt}}} {
			if e := pcm.Check(api.Sound{Format: f, Samples: lists}); e != api.ErrFormat {
				t.Error(f, lists, e)
			}
		}
	}
	two := made(2, 8, 8000)
	for _, lists := range [][][]int{
		nil, {}, {{}}, {{1}}, {{1}, {1}, {1}}, {{}, {}, {}}, {{1}, {}}, {{}, {1}}, {nil, {1}}, {{1, 2}, {1}}, {{1}, {1, 2}},
		{{1000}}, {{1000}, {}}, {{1, 2}, {1000}}, {{1}, {1}, {1000}},
	} {
		if e := pcm.Check(api.Sound{Format: two, Samples: lists}); e != api.ErrLength {
			t.Error(lists, e)
		}
	}
}

// P5.1: a sample one beyond either end of its bits, and far beyond, wherever it is.
func TestCheckSamples(t *testing.T) {
	x := noise(2)
	for bits := 8; bits <= 24; bits++ {
		lo, hi := ends(bits)
		for _, n := range []int{1, 2, 9} {
			s := x.sound(3, bits, n)
			for _, l := range s.Samples {
				for _, i := range []int{0, n / 2, n - 1} {
					kept := l[i]
					for _, wrong := range []int{lo - 1, hi + 1, math.MinInt, math.MaxInt, 1 << 32, -1 << 32} {
						l[i] = wrong
						if e := pcm.Check(s); e != api.ErrSample {
							t.Error(bits, n, i, wrong, e)
						}
					}
					for _, right := range []int{lo, hi, 0, -1} {
						l[i] = right
						if e := pcm.Check(s); e != api.OK {
							t.Error(bits, n, i, right, e)
						}
					}
					l[i] = kept
				}
			}
		}
	}
}

// P5.1: of sound that need not be right.
func TestCount(t *testing.T) {
	for _, c := range []struct {
		lists [][]int
		n     int
	}{{nil, 0}, {[][]int{}, 0}, {[][]int{nil}, 0}, {[][]int{{}, {1, 2}}, 0}, {[][]int{{1}}, 1}, {[][]int{{1, 2, 3}, {}}, 3}, {[][]int{{1, 1000}, {1, 2, 3}}, 2}} {
		for _, f := range []api.Format{{}, made(1, 8, 1), made(-5, 99, 0)} {
			if n := pcm.Count(api.Sound{Format: f, Samples: c.lists}); n != c.n {
				t.Error(f, c.lists, n)
			}
		}
	}
}

// P5.2
func TestSilence(t *testing.T) {
	for _, f := range formats() {
		for _, n := range []int{0, 1, 2, 300} {
			want := api.Sound{Format: f}
			for range f.Channels {
				want.Samples = append(want.Samples, make([]int, n))
			}
			s, e := pcm.Silence(f, n)
			is(t, "Silence", s, e, want, api.OK)
			own(t, "Silence", s)
		}
		for _, n := range []int{-1, math.MinInt, 1<<20 + 1, 1 << 32, math.MaxInt} {
			s, e := pcm.Silence(f, n)
			is(t, "Silence", s, e, api.Sound{}, api.ErrArg)
		}
	}
	s, e := pcm.Silence(made(2, 8, 1), 1<<20)
	if e != api.OK || len(s.Samples) != 2 || len(s.Samples[0]) != 1<<20 || len(s.Samples[1]) != 1<<20 || slices.Max(s.Samples[1]) != 0 || slices.Min(s.Samples[1]) != 0 {
		t.Error("the longest silence", e)
	}
	for _, f := range wrongFormats() {
		for _, n := range []int{5, 0, -1, 1<<20 + 1} {
			s, e := pcm.Silence(f, n)
			is(t, "Silence", s, e, api.Sound{}, api.ErrFormat)
		}
	}
}

// wrongSounds are sounds that are not right, by what is wrong with them.
func wrongSounds() map[api.Errno]api.Sound {
	return map[api.Errno]api.Sound{
		api.ErrFormat: {Format: made(1, 25, 1), Samples: [][]int{{1}, {1000, 1}}},
		api.ErrLength: of([]int{1, 2}, []int{1000}),
		api.ErrSample: of([]int{1, 2}, []int{1, 128}),
	}
}

// P5.2: every place, and those that are one beyond.
func TestCut(t *testing.T) {
	x := noise(3)
	for _, n := range []int{0, 1, 5} {
		s := x.sound(3, 12, n)
		for from := -2; from <= n+2; from++ {
			for to := -2; to <= n+2; to++ {
				got, e := pcm.Cut(s, from, to)
				if from < 0 || from > to || to > n {
					is(t, "Cut", got, e, api.Sound{}, api.ErrArg)
					continue
				}
				want := api.Sound{Format: s.Format, Samples: [][]int{s.Samples[0][from:to], s.Samples[1][from:to], s.Samples[2][from:to]}}
				is(t, "Cut", got, e, want, api.OK)
				own(t, "Cut", got, s)
			}
		}
		for _, c := range [][2]int{{math.MinInt, 0}, {0, math.MaxInt}, {math.MinInt, math.MaxInt}, {math.MaxInt, math.MinInt}, {1 << 32, 1<<32 + 1}} {
			got, e := pcm.Cut(s, c[0], c[1])
			is(t, "Cut", got, e, api.Sound{}, api.ErrArg)
		}
	}
	for wanted, s := range wrongSounds() {
		for _, c := range [][2]int{{0, 0}, {0, 1}, {-1, 1}, {1, 0}, {0, 3}} {
			got, e := pcm.Cut(s, c[0], c[1])
			is(t, "Cut", got, e, api.Sound{}, wanted)
		}
	}
}

// P5.2
func TestJoin(t *testing.T) {
	x := noise(4)
	for _, n := range []int{0, 1, 7} {
		for _, m := range []int{0, 1, 6} {
			a, b := x.sound(2, 16, n), x.sound(2, 16, m)
			want := copied(a)
			for i, l := range b.Samples {
				want.Samples[i] = append(want.Samples[i], l...)
			}
			got, e := pcm.Join(a, b)
			is(t, "Join", got, e, want, api.OK)
			own(t, "Join", got, a, b)
		}
	}
	a := x.sound(1, 8, 4)
	a.Samples[0] = a.Samples[0][:2]
	kept := slices.Clone(a.Samples[0][:4])
	twice, e := pcm.Join(a, a)
	if is(t, "Join to itself", twice, e, of2(a), api.OK); !slices.Equal(a.Samples[0][:4], kept) {
		t.Error("what is behind a list was written over")
	}
}

// of2 is sound of one channel, twice.
func of2(s api.Sound) api.Sound {
	return api.Sound{Format: s.Format, Samples: [][]int{slices.Concat(s.Samples[0], s.Samples[0])}}
}

// others are formats that are unlike f in one number.
func others(f api.Format) []api.Format {
	return []api.Format{made(f.Channels+1, f.Bits, f.Rate), made(f.Channels, f.Bits+1, f.Rate), made(f.Channels, f.Bits, f.Rate+1)}
}

// P5.2, P5.5: what is wrong with the first sound is told ahead of what is wrong with the second one, and that ahead of formats.
func TestTwoSounds(t *testing.T) {
	right := of([]int{1}, []int{2})
	calls := map[string]func(a, b api.Sound) (int, api.Errno){
		"Join":  func(a, b api.Sound) (int, api.Errno) { s, e := pcm.Join(a, b); return len(s.Samples), e },
		"Apart": func(a, b api.Sound) (int, api.Errno) { l, e := pcm.Apart(a, b); return len(l), e },
	}
	for name, call := range calls {
		refuse := func(a, b api.Sound, wanted api.Errno) {
			t.Helper()
			if n, e := call(a, b); n != 0 || e != wanted {
				t.Errorf("%s: error %d, not %d, and %d lists", name, e, wanted, n)
			}
		}
		for first, a := range wrongSounds() {
			refuse(a, right, first)
			refuse(right, a, first)
			for _, b := range wrongSounds() {
				refuse(a, b, first)
			}
		}
		for _, f := range others(right.Format) {
			other, _ := pcm.Silence(f, 3)
			refuse(right, other, api.ErrFormat)
			refuse(other, right, api.ErrFormat)
			other.Samples[0][1] = math.MaxInt
			refuse(right, other, api.ErrSample)
		}
	}
}

// P5.3, and the chapter's example.
func TestWeave(t *testing.T) {
	l, e := pcm.Weave(of([]int{1, 2}, []int{3, 4}))
	if e != api.OK || !slices.Equal(l, []int{1, 3, 2, 4}) {
		t.Error(l, e)
	}
	l, e = pcm.Weave(of([]int{1, 2, 3}, []int{4, 5, 6}, []int{7, 8, -128}))
	if e != api.OK || !slices.Equal(l, []int{1, 4, 7, 2, 5, 8, 3, 6, -128}) {
		t.Error(l, e)
	}
	for _, s := range []api.Sound{of(nil), of(nil, []int{}, nil)} {
		if l, e := pcm.Weave(s); e != api.OK || len(l) != 0 {
			t.Error(l, e)
		}
	}
	for wanted, s := range wrongSounds() {
		if l, e := pcm.Weave(s); e != wanted || len(l) != 0 {
			t.Error(l, e, wanted)
		}
	}
	alone := of([]int{1, 2, 3})
	l, _ = pcm.Weave(alone)
	l[0] = 99
	if !slices.Equal(alone.Samples[0], []int{1, 2, 3}) {
		t.Error("shares memory with what was handed in")
	}
}

// P5.3
func TestPart(t *testing.T) {
	three := made(3, 8, 8000)
	l := []int{1, 4, 7, 2, 5, 8, 127, 6, -128}
	s, e := pcm.Part(three, l)
	is(t, "Part", s, e, of([]int{1, 2, 127}, []int{4, 5, 6}, []int{7, 8, -128}), api.OK)
	own(t, "Part", s, of(l))
	for _, none := range [][]int{nil, {}} {
		s, e := pcm.Part(three, none)
		is(t, "Part of none", s, e, of(nil, nil, nil), api.OK)
	}
	for n := range 9 {
		s, e := pcm.Part(three, l[:n])
		if n%3 > 0 {
			is(t, "Part, no whole frames", s, e, api.Sound{}, api.ErrLength)
		} else if e != api.OK || pcm.Count(s) != n/3 {
			t.Error(n, s, e)
		}
	}
	for _, f := range wrongFormats() {
		for _, l := range [][]int{nil, {1}, {1, 2}, {math.MaxInt}} {
			s, e := pcm.Part(f, l)
			is(t, "Part", s, e, api.Sound{}, api.ErrFormat)
		}
	}
	s, e = pcm.Part(three, []int{1000, 2, 3, 4})
	is(t, "Part, too short, and a sample", s, e, api.Sound{}, api.ErrLength)
}

// P5.3: a sample one beyond either end of its bits, wherever it is.
func TestPartSamples(t *testing.T) {
	for bits := 8; bits <= 24; bits++ {
		lo, hi := ends(bits)
		f := made(2, bits, 8000)
		for i := range 6 {
			for _, wrong := range []int{lo - 1, hi + 1, math.MinInt, math.MaxInt} {
				l := []int{lo, hi, lo, hi, 0, 0}
				l[i] = wrong
				s, e := pcm.Part(f, l)
				is(t, "Part", s, e, api.Sound{}, api.ErrSample)
			}
		}
		s, e := pcm.Part(f, []int{lo, hi, lo, hi, 0, -1})
		is(t, "Part", s, e, api.Sound{Format: f, Samples: [][]int{{lo, lo, 0}, {hi, hi, -1}}}, api.OK)
	}
}

// laid is the samples of a sum as bytes, as the words say it.
func laid(lists [][]int) []byte {
	b := []byte{}
	for i := 0; len(lists) > 0 && i < len(lists[0]); i++ {
		for _, l := range lists {
			if i < len(l) {
				b = binary.LittleEndian.AppendUint32(b, uint32(l[i]))
			}
		}
	}
	return b
}

// sums fails, if the sum of sound is another one than that of the bytes it is laid into.
func sums(t *testing.T, lists ...[]int) {
	t.Helper()
	table := crc.Make()
	for _, f := range []api.Format{{}, made(1, 8, 1), made(len(lists), 24, 8000), made(-3, -3, -3)} {
		s := api.Sound{Format: f, Samples: lists}
		for _, sum := range []uint32{0, 1, 0xCBF43926, 0xFFFFFFFF} {
			kept := copied(s)
			want := crc32.Update(sum, crc32.IEEETable, laid(lists))
			if got := pcm.Sum(table, sum, s); got != want {
				t.Errorf("%v: %#x, not %#x", brief(s), got, want)
			}
			if got := pcm.Sum(nil, sum, s); got != 0 {
				t.Errorf("of a nil table: %#x", got)
			}
			if !alike(s, kept) {
				t.Error("sound was changed")
			}
		}
	}
	if *table != *crc.Make() {
		t.Error("the table was changed")
	}
}

// P5.4
func TestSum(t *testing.T) {
	x := noise(5)
	if got := pcm.Sum(crc.Make(), 0, of([]int{1}, []int{-2})); got != crc32.ChecksumIEEE([]byte{1, 0, 0, 0, 0xFE, 0xFF, 0xFF, 0xFF}) {
		t.Errorf("%#x", got)
	}
	sums(t)
	sums(t, nil)
	sums(t, nil, []int{})
	for channels := 1; channels <= 8; channels++ {
		for bits := 8; bits <= 24; bits++ {
			sums(t, x.sound(channels, bits, 33).Samples...)
		}
	}
	for _, n := range []int{1023, 1024, 1025, 5000, 70000} {
		sums(t, x.sound(1, 24, n).Samples...)
		sums(t, x.sound(3, 16, n).Samples...)
	}
}

// P5.4: as many frames as the first list has; shorter ones have nothing there.
func TestSumOfUnlikeLists(t *testing.T) {
	x := noise(6)
	sums(t, nil, []int{1, 2, 3})
	sums(t, []int{1, 2, 3}, nil)
	sums(t, []int{1, 2, 3}, []int{4}, []int{5, 6})
	sums(t, []int{1}, []int{4, 5, 6}, []int{7, 8})
	sums(t, []int{1, 2}, nil, []int{4, 5, 6}, []int{7}, nil, []int{8, 9})
	for range 100 {
		var lists [][]int
		for range x.next(12) {
			lists = append(lists, x.list(16, x.next(3000)))
		}
		sums(t, lists...)
	}
	if got, want := pcm.Sum(crc.Make(), 5, of([]int{1, 2}, []int{3})), crc32.Update(5, crc32.IEEETable, []byte{1, 0, 0, 0, 3, 0, 0, 0, 2, 0, 0, 0}); got != want {
		t.Errorf("%#x, not %#x", got, want)
	}
}

// P5.4: very many lists that have ended are not gone over again and again.
func TestSumOfManyLists(t *testing.T) {
	lists := make([][]int, 200000)
	lists[0] = make([]int, 200000)
	s := api.Sound{Samples: lists}
	if got, want := pcm.Sum(crc.Make(), 7, s), crc.Make().Zeros(7, 800000); got != want {
		t.Errorf("%#x, not %#x", got, want)
	}
}

// P5.4: of a sample that is none of four bytes the lowest four.
func TestSumOfGreatSamples(t *testing.T) {
	great := []int{math.MinInt, math.MaxInt, -1 << 31, 1<<31 - 1, -1<<31 - 1, 1 << 31, 1 << 32, 1<<32 + 5, -1 << 32, -1<<32 - 1, 0x0123456789ABCDEF}
	sums(t, great)
	sums(t, great, []int{1, math.MinInt}, great)
	for _, c := range []struct {
		x int
		b []byte
	}{
		{1<<32 + 5, []byte{5, 0, 0, 0}}, {1 << 31, []byte{0, 0, 0, 0x80}}, {-1<<31 - 1, []byte{0xFF, 0xFF, 0xFF, 0x7F}},
		{math.MinInt, []byte{0, 0, 0, 0}}, {math.MaxInt, []byte{0xFF, 0xFF, 0xFF, 0xFF}}, {-1, []byte{0xFF, 0xFF, 0xFF, 0xFF}},
	} {
		if got := pcm.Sum(crc.Make(), 0, of([]int{c.x})); got != crc32.ChecksumIEEE(c.b) {
			t.Errorf("%d: %#x", c.x, got)
		}
	}
}

// P5.4: the sum is what the table's numbers say, whatever they are.
func TestSumByAnotherTable(t *testing.T) {
	x, table := noise(7), &crc.Table{}
	for i := range table {
		table[i] = uint32(x.next(1 << 31))
	}
	for _, n := range []int{0, 1, 5, 3000} {
		s := x.sound(2, 24, n)
		if got, want := pcm.Sum(table, 9, s), table.Next(9, laid(s.Samples)...); got != want {
			t.Errorf("%d frames: %#x, not %#x", n, got, want)
		}
	}
}

// P5.5
func TestSame(t *testing.T) {
	x := noise(8)
	for _, n := range []int{0, 1, 5} {
		s := x.sound(3, 16, n)
		if !pcm.Same(s, s) || !pcm.Same(s, copied(s)) {
			t.Error("not the same", n)
		}
		for _, f := range others(s.Format) {
			if o := (api.Sound{Format: f, Samples: s.Samples}); pcm.Same(s, o) || pcm.Same(o, s) {
				t.Error("another format", f)
			}
		}
		for c := range s.Samples {
			for i := range n {
				o := copied(s)
				o.Samples[c][i]++
				if pcm.Same(s, o) || pcm.Same(o, s) {
					t.Error("another sample", c, i)
				}
			}
			o := copied(s)
			o.Samples[c] = append(o.Samples[c], 0)
			if pcm.Same(s, o) || pcm.Same(o, s) {
				t.Error("one sample more", c)
			}
		}
		o := copied(s)
		o.Samples = append(o.Samples, nil)
		if pcm.Same(s, o) || pcm.Same(o, s) {
			t.Error("one list more")
		}
	}
	if !pcm.Same(api.Sound{}, api.Sound{Samples: [][]int{}}) || !pcm.Same(of(nil), of([]int{})) {
		t.Error("lists without elements may be nil or empty")
	}
	wrong := of([]int{1000}, []int{1, math.MinInt})
	if !pcm.Same(wrong, copied(wrong)) || pcm.Same(wrong, of([]int{1000}, []int{1, math.MaxInt})) {
		t.Error("sound that is not right")
	}
}

// P5.5
func TestApart(t *testing.T) {
	for _, c := range []struct {
		a, b api.Sound
		far  []int
	}{
		{of(nil), of([]int{}), []int{0}},
		{of(nil, nil, nil), of(nil, nil, nil), []int{0, 0, 0}},
		{of([]int{1, 2, 3}), of([]int{1, 2, 3}), []int{0}},
		{of([]int{1, 2, 3}), of([]int{3, 2, 1}), []int{2}},
		{of([]int{5, 0, 0}, []int{0, 0, -9}), of([]int{0, 1, -2}, []int{3, 0, 0}), []int{5, 9}},
		{of([]int{-128, 0}, []int{127, 7}), of([]int{127, 0}, []int{-128, 7}), []int{255, 255}},
	} {
		for _, d := range [][2]api.Sound{{c.a, c.b}, {c.b, c.a}} {
			if far, e := pcm.Apart(d[0], d[1]); e != api.OK || !slices.Equal(far, c.far) {
				t.Error(d, far, e)
			}
		}
	}
	lo, hi := ends(24)
	widest := api.Sound{Format: made(1, 24, 1), Samples: [][]int{{lo, 0}}}
	other := api.Sound{Format: widest.Format, Samples: [][]int{{hi, 0}}}
	if far, e := pcm.Apart(widest, other); e != api.OK || !slices.Equal(far, []int{1<<24 - 1}) {
		t.Error(far, e)
	}
}

// P5.5: sounds of unlike lengths; formats are looked at ahead of them.
func TestApartLengths(t *testing.T) {
	x := noise(9)
	for n := range 4 {
		for m := range 4 {
			far, e := pcm.Apart(x.sound(2, 16, n), x.sound(2, 16, m))
			if (n == m) != (e == api.OK) || n != m && (e != api.ErrLength || len(far) != 0) {
				t.Error(n, m, far, e)
			}
			if far, e := pcm.Apart(x.sound(2, 16, n), x.sound(2, 17, m)); e != api.ErrFormat || len(far) != 0 {
				t.Error(n, m, far, e)
			}
		}
	}
}

// P5.6: what is cut anywhere, and joined, is as it was.
func TestCutAndJoin(t *testing.T) {
	x := noise(10)
	for channels := 1; channels <= 8; channels++ {
		n := 3 * channels
		s := x.sound(channels, 7+2*channels, n)
		for at := range n + 1 {
			a, e := pcm.Cut(s, 0, at)
			b, e2 := pcm.Cut(s, at, n)
			back, e3 := pcm.Join(a, b)
			if e != api.OK || e2 != api.OK || e3 != api.OK || !alike(back, s) || !pcm.Same(back, s) {
				t.Error(channels, at, e, e2, e3)
			}
		}
	}
}

// P5.6: what is woven and parted is as it was, both ways.
func TestWeaveAndPart(t *testing.T) {
	x := noise(11)
	for channels := 1; channels <= 8; channels++ {
		for _, n := range []int{0, 1, 2, 50} {
			s := x.sound(channels, 24, n)
			kept := copied(s)
			l, e := pcm.Weave(s)
			back, e2 := pcm.Part(s.Format, l)
			again, e3 := pcm.Weave(back)
			if e != api.OK || e2 != api.OK || e3 != api.OK || !alike(back, s) || !slices.Equal(l, again) || !alike(s, kept) {
				t.Error(channels, n, e, e2, e3)
			}
		}
	}
}

// P5.7: sums of parts, one behind the other, are the sum of the whole.
func TestSumsOfParts(t *testing.T) {
	x, table := noise(12), crc.Make()
	s := x.sound(3, 20, 2000)
	whole := pcm.Sum(table, 77, s)
	for size := 1; size < 2100; size = 2*size + 1 {
		sum := uint32(77)
		for at := 0; at < 2000; at += size {
			part, e := pcm.Cut(s, at, min(at+size, 2000))
			if e != api.OK {
				t.Fatal(e)
			}
			sum = pcm.Sum(table, sum, part)
		}
		if sum != whole {
			t.Errorf("pieces of %d: %#x, not %#x", size, sum, whole)
		}
	}
	woven, _ := pcm.Weave(s)
	if got := table.Next(77, laid([][]int{woven})...); got != whole || !bytes.Equal(laid(s.Samples), laid([][]int{woven})) {
		t.Error("not the sum of what is woven")
	}
}

// P1: whatever is handed in, nothing panics, and with an error there is nothing else.
func TestWhateverIsHandedIn(t *testing.T) {
	lists := [][][]int{nil, {}, {nil}, {{}}, {{1}}, {{1}, {2}}, {nil, {1}}, {{1}, nil}, {{math.MinInt, math.MaxInt}}, {{1, 2}, {3, 1000}}, make([][]int, 9)}
	numbers := []int{math.MinInt, -1, 0, 1, 2, 3, math.MaxInt}
	var sounds []api.Sound
	for _, f := range append(append(formats(), wrongFormats()...), made(2, 8, 8000)) {
		for _, l := range lists {
			sounds = append(sounds, api.Sound{Format: f, Samples: l})
		}
	}
	none := func(name string, e api.Errno, isNone bool) {
		t.Helper()
		if e != api.OK && !isNone {
			t.Error(name, "answers an error and more:", e)
		}
	}
	for _, s := range sounds {
		pcm.Sum(crc.Make(), 1, s)
		pcm.Sum(nil, 1, s)
		woven, e := pcm.Weave(s)
		none("Weave", e, len(woven) == 0)
		for _, n := range numbers {
			silence, e := pcm.Silence(s.Format, n)
			none("Silence", e, alike(silence, api.Sound{}))
			for _, m := range numbers {
				part, e := pcm.Cut(s, n, m)
				none("Cut", e, alike(part, api.Sound{}))
			}
			sound, e := pcm.Part(s.Format, numbers[2:])
			none("Part", e, alike(sound, api.Sound{}))
		}
		for _, o := range sounds {
			pcm.Same(s, o)
			joined, e := pcm.Join(s, o)
			none("Join", e, alike(joined, api.Sound{}))
			far, e := pcm.Apart(s, o)
			none("Apart", e, len(far) == 0)
		}
	}
}
