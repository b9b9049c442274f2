package wav_test

import (
	"bytes"
	"encoding/binary"
	"math"
	"slices"
	"strings"
	"testing"

	"descant/api"
	"descant/wav"
)

const mostData = 1 << 28 // bytes of samples, at the most

// noise is numbers that look like chance, and are the same ones at each run.
type noise uint64

func (x *noise) next(n int) int {
	*x = *x*6364136223846793005 + 1442695040888963407
	return int(*x >> 33 % noise(n))
}

func (x *noise) bytes(n int) []byte {
	b := make([]byte, n)
	for i := range b {
		b[i] = byte(x.next(256))
	}
	return b
}

// format is a right one.
func (x *noise) format() api.Format {
	return api.Format{Channels: 1 + x.next(8), Bits: 8 + x.next(17), Rate: 1 + x.next(1<<(1+x.next(20))-1)}
}

// sample is a number of so many bits, often one at an end, or near 0.
func (x *noise) sample(bits int) int {
	half := 1 << (bits - 1)
	switch x.next(6) {
	case 0:
		return -half
	case 1:
		return half - 1
	case 2:
		return x.next(3) - 1
	}
	return x.next(2*half) - half
}

// sound is n frames.
func (x *noise) sound(f api.Format, n int) api.Sound {
	s := api.Sound{Format: f}
	for range f.Channels {
		l := make([]int, n)
		for i := range l {
			l[i] = x.sample(f.Bits)
		}
		s.Samples = append(s.Samples, l)
	}
	return s
}

// formats are all numbers of channels and bits.
func formats() []api.Format {
	var l []api.Format
	for channels := 1; channels <= 8; channels++ {
		for bits := 8; bits <= 24; bits++ {
			l = append(l, api.Format{Channels: channels, Bits: bits, Rate: 44100})
		}
	}
	return l
}

// mono is sound of one channel.
func mono(bits int, samples ...int) api.Sound {
	return api.Sound{Format: api.Format{Channels: 1, Bits: bits, Rate: 8000}, Samples: [][]int{samples}}
}

// kept is a copy of sound, and of all its lists.
func kept(s api.Sound) api.Sound {
	k := api.Sound{Format: s.Format}
	for _, l := range s.Samples {
		k.Samples = append(k.Samples, slices.Clone(l))
	}
	return k
}

// same tells whether two sounds are the same.
func same(a, b api.Sound) bool {
	return a.Format == b.Format && slices.EqualFunc(a.Samples, b.Samples, slices.Equal[[]int])
}

// two and four are fields of so many bytes.
func two(v int) []byte  { return binary.LittleEndian.AppendUint16(nil, uint16(v)) }
func four(v int) []byte { return binary.LittleEndian.AppendUint32(nil, uint32(v)) }

// chunk is a chunk's bytes, with what stands behind it.
func chunk(name string, b ...byte) []byte {
	all := slices.Concat([]byte(name), four(len(b)), b)
	if len(b)%2 == 1 {
		all = append(all, 0)
	}
	return all
}

// of is a WAV of these chunks.
func of(chunks ...[]byte) []byte {
	all := slices.Concat(chunks...)
	return slices.Concat([]byte("RIFF"), four(4+len(all)), []byte("WAVE"), all)
}

// wide is how many bytes a sample has.
func wide(bits int) int {
	switch {
	case bits == 8:
		return 1
	case bits <= 16:
		return 2
	}
	return 3
}

// formatOf is a format chunk of these numbers.
func formatOf(way, channels, rate, pace, frame, bits int) []byte {
	return chunk("fmt ", slices.Concat(two(way), two(channels), four(rate), four(pace), two(frame), two(bits))...)
}

// formatChunk is that of a format.
func formatChunk(f api.Format) []byte {
	frame := f.Channels * wide(f.Bits)
	return formatOf(1, f.Channels, f.Rate, f.Rate*frame, frame, f.Bits)
}

// sampleBytes are a sample, as the words say it.
func sampleBytes(x, bits int) []byte {
	if bits == 8 {
		return []byte{byte(x + 128)}
	}
	v := x
	for range 8*wide(bits) - bits {
		v *= 2
	}
	if v < 0 {
		v += 1 << (8 * wide(bits))
	}
	return four(v)[:wide(bits)]
}

// dataChunk is that of sound.
func dataChunk(s api.Sound) []byte {
	var b []byte
	for i := range s.Samples[0] {
		for _, l := range s.Samples {
			b = append(b, sampleBytes(l[i], s.Format.Bits)...)
		}
	}
	return chunk("data", b...)
}

// written is sound as a WAV.
func written(s api.Sound) []byte {
	return of(formatChunk(s.Format), dataChunk(s))
}

// isStart tells whether bytes, as far as there are some, are those of a name.
func isStart(b []byte, name string) bool {
	for i := range b {
		if i < len(name) && b[i] != name[i] {
			return false
		}
	}
	return true
}

// number is a field.
func number(b []byte) int {
	v := 0
	for i, c := range b {
		v += int(c) << (8 * i)
	}
	return v
}

// chunksOf are all chunks, or an error, as the words say it.
func chunksOf(b []byte) ([]wav.Chunk, api.Errno) {
	if !isStart(b, "RIFF") || len(b) > 8 && !isStart(b[8:], "WAVE") {
		return nil, api.ErrWav
	}
	if len(b) < 12 {
		return nil, api.ErrEnd
	}
	if number(b[4:8]) != len(b)-8 {
		return nil, api.ErrSize
	}
	var l []wav.Chunk
	for at := 12; at < len(b); {
		if len(b)-at < 8 {
			return nil, api.ErrEnd
		}
		c := wav.Chunk{Name: string(b[at : at+4]), At: at + 8, Size: number(b[at+4 : at+8])}
		odd := c.Size % 2
		if len(b)-c.At < c.Size+odd {
			return nil, api.ErrEnd
		}
		at = c.At + c.Size + odd
		if odd == 1 && b[at-1] != 0 {
			return nil, api.ErrBits
		}
		l = append(l, c)
	}
	return l, api.OK
}

// readFormat is the format of a format chunk's bytes, or an error, as the words say it.
func readFormat(b []byte) (api.Format, api.Errno) {
	if len(b) != 16 {
		return api.Format{}, api.ErrChunk
	}
	f := api.Format{Channels: number(b[2:4]), Bits: number(b[14:16]), Rate: number(b[4:8])}
	if f.Channels < 1 || f.Channels > 8 || f.Bits < 8 || f.Bits > 24 || f.Rate < 1 || f.Rate >= 1<<20 {
		return api.Format{}, api.ErrFormat
	}
	frame := f.Channels * wide(f.Bits)
	if number(b[:2]) != 1 || number(b[8:12]) != f.Rate*frame || number(b[12:14]) != frame {
		return api.Format{}, api.ErrFormat
	}
	return f, api.OK
}

// readData is the sound of a data chunk's bytes, or an error, as the words say it.
func readData(f api.Format, b []byte) (api.Sound, api.Errno) {
	width := wide(f.Bits)
	if len(b)%(f.Channels*width) != 0 {
		return api.Sound{}, api.ErrLength
	}
	s := api.Sound{Format: f, Samples: make([][]int, f.Channels)}
	for i := 0; i*width < len(b); i++ {
		v := number(b[i*width : i*width+width])
		if f.Bits == 8 {
			v -= 128
		} else {
			if v >= 1<<(8*width-1) {
				v -= 1 << (8 * width)
			}
			for range 8*width - f.Bits {
				if v%2 != 0 {
					return api.Sound{}, api.ErrSample
				}
				v /= 2
			}
		}
		s.Samples[i%f.Channels] = append(s.Samples[i%f.Channels], v)
	}
	return s, api.OK
}

// readOf is the sound of a WAV, or an error, as the words say it.
func readOf(b []byte) (api.Sound, api.Errno) {
	l, e := chunksOf(b)
	if e != api.OK {
		return api.Sound{}, e
	}
	var formats []api.Format
	var sounds []api.Sound
	for _, c := range l {
		in := b[c.At : c.At+c.Size]
		switch c.Name {
		case "fmt ":
			if len(formats) > 0 {
				return api.Sound{}, api.ErrChunk
			}
			f, e := readFormat(in)
			if e != api.OK {
				return api.Sound{}, e
			}
			formats = append(formats, f)
		case "data":
			if len(formats) == 0 || len(sounds) > 0 {
				return api.Sound{}, api.ErrChunk
			}
			s, e := readData(formats[0], in)
			if e != api.OK {
				return api.Sound{}, e
			}
			sounds = append(sounds, s)
		}
	}
	if len(sounds) == 0 {
		return api.Sound{}, api.ErrChunk
	}
	return sounds[0], api.OK
}

// shown is what is told of bytes that failed.
func shown(b []byte) []byte { return b[:min(len(b), 100)] }

// writes fails, if other bytes are written, or the sound is not read of them, or what is handed in changes.
func writes(t *testing.T, s api.Sound, want []byte) {
	t.Helper()
	was := kept(s)
	b, e := wav.Write(s)
	if e != api.OK || !bytes.Equal(b, want) {
		t.Fatalf("%v: % X, error %d, not % X", s.Format, shown(b), e, shown(want))
	}
	if !same(s, was) {
		t.Fatal("what was handed in has changed")
	}
	reads(t, want, s)
}

// writesNone fails, if bytes are written, or there is another error.
func writesNone(t *testing.T, s api.Sound, want api.Errno) {
	t.Helper()
	if b, e := wav.Write(s); e != want || len(b) > 0 {
		t.Errorf("%v, %d lists: %d bytes, error %d, not %d", s.Format, len(s.Samples), len(b), e, want)
	}
}

// reads fails, if another sound is read, or what is handed in changes.
func reads(t *testing.T, b []byte, want api.Sound) {
	t.Helper()
	was := bytes.Clone(b)
	s, e := wav.Read(b)
	if e != api.OK || !same(s, want) {
		t.Fatalf("% X: %v, error %d, not %v", shown(b), s, e, want)
	}
	if !bytes.Equal(b, was) {
		t.Fatal("what was handed in has changed")
	}
}

// readsNone fails, if sound is read, or there is another error.
func readsNone(t *testing.T, b []byte, want api.Errno) {
	t.Helper()
	s, e := wav.Read(b)
	if e != want || !same(s, api.Sound{}) {
		t.Fatalf("% X: %v, error %d, not %d", shown(b), s, e, want)
	}
}

// tellsNone fails, if chunks are told, or there is another error, also of the sound.
func tellsNone(t *testing.T, b []byte, want api.Errno) {
	t.Helper()
	if l, e := wav.Chunks(b); e != want || len(l) > 0 {
		t.Fatalf("% X: %v, error %d, not %d", shown(b), l, e, want)
	}
	readsNone(t, b, want)
}

// tells fails, if other chunks are told, or what is handed in changes.
func tells(t *testing.T, b []byte, want ...wav.Chunk) {
	t.Helper()
	was := bytes.Clone(b)
	l, e := wav.Chunks(b)
	if e != api.OK || !slices.Equal(l, want) {
		t.Fatalf("% X: %v, error %d, not %v", shown(b), l, e, want)
	}
	if !bytes.Equal(b, was) {
		t.Fatal("what was handed in has changed")
	}
}

// asTheWords fails, if these bytes are taken otherwise than the words say.
func asTheWords(t *testing.T, b []byte) api.Errno {
	t.Helper()
	was := bytes.Clone(b)
	wantChunks, wantE := chunksOf(b)
	if l, e := wav.Chunks(b); e != wantE || !slices.Equal(l, wantChunks) {
		t.Fatalf("% X: %v, error %d, not %v, %d", shown(b), l, e, wantChunks, wantE)
	}
	want, wantE := readOf(b)
	if s, e := wav.Read(b); e != wantE || !same(s, want) {
		t.Fatalf("% X: %v, error %d, not %v, %d", shown(b), s, e, want, wantE)
	}
	if !bytes.Equal(b, was) {
		t.Fatal("what was handed in has changed")
	}
	return wantE
}

// P25.1
func TestWidth(t *testing.T) {
	for bits := -200; bits <= 300; bits++ {
		want := 0
		if bits >= 8 && bits <= 24 {
			want = wide(bits)
		}
		if n := wav.Width(bits); n != want {
			t.Errorf("%d bits: %d, not %d", bits, n, want)
		}
	}
	for bits, want := range map[int]int{7: 0, 8: 1, 9: 2, 16: 2, 17: 3, 24: 3, 25: 0, 32: 0} {
		if n := wav.Width(bits); n != want {
			t.Errorf("%d bits: %d, not %d", bits, n, want)
		}
	}
	for _, bits := range []int{math.MinInt, math.MinInt + 1, -1 << 32, 1<<32 + 8, 1 << 62, math.MaxInt - 7, math.MaxInt} {
		if n := wav.Width(bits); n != 0 {
			t.Errorf("%d bits: %d", bits, n)
		}
	}
}

// The chapter's example, P25.2, byte by byte.
func TestExample(t *testing.T) {
	writes(t, mono(8, 0, 0), []byte{
		'R', 'I', 'F', 'F', 38, 0, 0, 0, 'W', 'A', 'V', 'E',
		'f', 'm', 't', ' ', 16, 0, 0, 0, 1, 0, 1, 0, 0x40, 0x1F, 0, 0, 0x40, 0x1F, 0, 0, 1, 0, 8, 0,
		'd', 'a', 't', 'a', 2, 0, 0, 0, 0x80, 0x80,
	})
}

// P25.2, P25.4: bytes by hand, at each width, with bits that are free and without.
func TestWriteByHand(t *testing.T) {
	data := func(b ...byte) []byte {
		return slices.Concat([]byte("data"), []byte{byte(len(b)), 0, 0, 0}, b)
	}
	// An odd number of bytes, and the byte behind, which is counted of the whole alone.
	writes(t, mono(8, -128, 127, 0), of(formatOf(1, 1, 8000, 8000, 1, 8), append(data(0, 255, 128), 0)))
	writes(t, mono(8, -1), of(formatOf(1, 1, 8000, 8000, 1, 8), append(data(127), 0)))
	writes(t, mono(8), of(formatOf(1, 1, 8000, 8000, 1, 8), data()))
	writes(t, mono(9, 1, -1, 255, -256), of(formatOf(1, 1, 8000, 16000, 2, 9), data(0x80, 0, 0x80, 0xFF, 0x80, 0x7F, 0, 0x80)))
	writes(t, mono(12, 1, -1, 0x7FF, -0x800), of(formatOf(1, 1, 8000, 16000, 2, 12), data(0x10, 0, 0xF0, 0xFF, 0xF0, 0x7F, 0, 0x80)))
	writes(t, mono(16, 1, -1, 0x7FFF, -0x8000, 0x1234), of(formatOf(1, 1, 8000, 16000, 2, 16), data(1, 0, 0xFF, 0xFF, 0xFF, 0x7F, 0, 0x80, 0x34, 0x12)))
	writes(t, mono(17, 1, -1), of(formatOf(1, 1, 8000, 24000, 3, 17), data(0x80, 0, 0, 0x80, 0xFF, 0xFF)))
	writes(t, mono(20, 0x12345), of(formatOf(1, 1, 8000, 24000, 3, 20), append(data(0x50, 0x34, 0x12), 0)))
	writes(t, mono(24, 0x123456, -2), of(formatOf(1, 1, 8000, 24000, 3, 24), data(0x56, 0x34, 0x12, 0xFE, 0xFF, 0xFF)))

	// Frame by frame, in each by channels.
	duet := api.Sound{Format: api.Format{Channels: 2, Bits: 16, Rate: 44100}, Samples: [][]int{{1, 2}, {3, 4}}}
	writes(t, duet, of(formatOf(1, 2, 44100, 176400, 4, 16), data(1, 0, 3, 0, 2, 0, 4, 0)))
	trio := api.Sound{Format: api.Format{Channels: 3, Bits: 8, Rate: 1}, Samples: [][]int{{1}, {2}, {3}}}
	writes(t, trio, of(formatOf(1, 3, 1, 3, 3, 8), append(data(129, 130, 131), 0)))

	// The greatest numbers of all.
	f := api.Format{Channels: 8, Bits: 24, Rate: api.MaxRate}
	writes(t, api.Sound{Format: f, Samples: make([][]int, 8)}, of(formatOf(1, 8, 1048575, 25165800, 24, 24), data()))
}

// P25.2, P25.4, P25.5: sound of all formats.
func TestWrite(t *testing.T) {
	x := noise(1)
	for _, f := range formats() {
		for n := range 6 {
			f.Rate = x.format().Rate
			s := x.sound(f, n)
			writes(t, s, written(s))
		}
	}
	for range 300 {
		s := x.sound(x.format(), x.next(200))
		writes(t, s, written(s))
	}
	for _, rate := range []int{1, 2, 255, 256, 65535, 65536, api.MaxRate - 1, api.MaxRate} {
		s := x.sound(api.Format{Channels: 3, Bits: 24, Rate: rate}, 3)
		writes(t, s, written(s))
	}
}

// P25.5: all samples of few bits, and those next to what a byte holds.
func TestEverySample(t *testing.T) {
	for bits := 8; bits <= 16; bits++ {
		var l []int
		for x := -1 << (bits - 1); x < 1<<(bits-1); x++ {
			l = append(l, x)
		}
		s := mono(bits, l...)
		writes(t, s, written(s))
	}
	for bits := 17; bits <= 24; bits++ {
		var l []int
		for at := range bits - 1 {
			l = append(l, 1<<at-1, 1<<at, -1<<at, -1<<at-1)
		}
		s := mono(bits, append(l, -1<<(bits-1), 1<<(bits-1)-1)...)
		writes(t, s, written(s))
	}
}

// P25.2: what is no sound.
func TestWriteNone(t *testing.T) {
	list := []int{1, 2}
	with := func(channels, bits, rate int, l ...[]int) api.Sound {
		return api.Sound{Format: api.Format{Channels: channels, Bits: bits, Rate: rate}, Samples: l}
	}
	writesNone(t, api.Sound{}, api.ErrFormat)
	for _, n := range []int{math.MinInt, -1, 0, 9, 1 << 16, math.MaxInt} {
		writesNone(t, with(n, 8, 8000, list), api.ErrFormat)
	}
	for _, bits := range []int{math.MinInt, -8, 0, 7, 25, 32, math.MaxInt} {
		writesNone(t, with(1, bits, 8000, list), api.ErrFormat)
	}
	for _, rate := range []int{math.MinInt, -1, 0, 1 << 20, math.MaxInt} {
		writesNone(t, with(1, 8, rate, list), api.ErrFormat)
	}
	writesNone(t, with(1, 8, 8000), api.ErrLength)
	writesNone(t, with(1, 8, 8000, list, list), api.ErrLength)
	writesNone(t, with(2, 8, 8000, list, list[:1]), api.ErrLength)
	writesNone(t, with(2, 8, 8000, list[:1], list), api.ErrLength)
	for bits := 8; bits <= 24; bits++ {
		half := 1 << (bits - 1)
		for _, sample := range []int{math.MinInt, -half - 1, half, math.MaxInt} {
			writesNone(t, with(2, bits, 8000, list, []int{0, sample}), api.ErrSample)
		}
	}
}

// P25.2: as many bytes as may be, and more. The channels are one list, as it is long.
func TestLong(t *testing.T) {
	with := func(channels, bits int, l []int) api.Sound {
		return api.Sound{Format: api.Format{Channels: channels, Bits: bits, Rate: 8000}, Samples: slices.Repeat([][]int{l}, channels)}
	}
	l := make([]int, mostData/6+1)
	// Two bytes more than may be.
	writesNone(t, with(3, 16, l), api.ErrLong)
	writesNone(t, with(2, 24, l), api.ErrLong)
	for _, bits := range []int{8, 9, 16, 17, 24} {
		fit := mostData / (8 * wide(bits))
		writesNone(t, with(8, bits, l[:fit+1]), api.ErrLong)
	}
	// What a sample is is told ahead of how many there are.
	l[0] = 1 << 23
	writesNone(t, with(8, 24, l), api.ErrSample)
	l[0] = 5
	s := with(8, 16, l[:mostData/16])
	b, e := wav.Write(s)
	if e != api.OK || len(b) != 44+mostData {
		t.Fatalf("%d bytes, error %d", len(b), e)
	}
	head := slices.Concat([]byte("RIFF"), four(36+mostData), []byte("WAVE"), formatChunk(s.Format), []byte("data"), four(mostData), bytes.Repeat([]byte{5, 0}, 8))
	if !bytes.HasPrefix(b, head) || slices.Max(b[len(head):]) != 0 {
		t.Fatal("other bytes")
	}
}

// P25.3: chunks, by hand.
func TestChunksByHand(t *testing.T) {
	tells(t, of())
	tells(t, of(chunk("abcd")), wav.Chunk{Name: "abcd", At: 20})
	tells(t, of(chunk("abcd", 1)), wav.Chunk{Name: "abcd", At: 20, Size: 1})
	tells(t, of(chunk("abcd", 1, 2)), wav.Chunk{Name: "abcd", At: 20, Size: 2})
	tells(t, of(chunk("abcd", 1, 2, 3), chunk("abcd"), chunk("\x00\xFF\n\"", 7), chunk("data", 9, 9)),
		wav.Chunk{Name: "abcd", At: 20, Size: 3}, wav.Chunk{Name: "abcd", At: 32}, wav.Chunk{Name: "\x00\xFF\n\"", At: 40, Size: 1}, wav.Chunk{Name: "data", At: 50, Size: 2})
	tells(t, of(chunk("RIFF"), chunk("WAVE"), chunk("    ")),
		wav.Chunk{Name: "RIFF", At: 20}, wav.Chunk{Name: "WAVE", At: 28}, wav.Chunk{Name: "    ", At: 36})
	// A chunk in a chunk is bytes.
	tells(t, of(chunk("LIST", chunk("abcd", 1)...)), wav.Chunk{Name: "LIST", At: 20, Size: 10})
	tells(t, written(mono(8, 1, 2, 3)), wav.Chunk{Name: "fmt ", At: 20, Size: 16}, wav.Chunk{Name: "data", At: 44, Size: 3})
	long := make([]byte, 1<<16+1)
	tells(t, of(chunk("long", long...), chunk("more", long[1:]...)),
		wav.Chunk{Name: "long", At: 20, Size: 1<<16 + 1}, wav.Chunk{Name: "more", At: 30 + 1<<16, Size: 1 << 16})
}

// P25.3: how bytes begin, as far as there are some.
func TestBegins(t *testing.T) {
	whole := written(mono(8, 1, 2, 3))
	for n := range 12 {
		tellsNone(t, whole[:n], api.ErrEnd)
	}
	tellsNone(t, nil, api.ErrEnd)
	for _, at := range []int{0, 1, 2, 3, 8, 9, 10, 11} {
		for change := 1; change < 256; change++ {
			b := bytes.Clone(whole)
			b[at] ^= byte(change)
			for n := at + 1; n <= 13; n++ {
				tellsNone(t, b[:n], api.ErrWav)
			}
			tellsNone(t, b, api.ErrWav)
			for n := range at + 1 {
				if n < 12 {
					tellsNone(t, b[:n], api.ErrEnd)
				}
			}
		}
	}
	tellsNone(t, []byte("riff"), api.ErrWav)
	tellsNone(t, []byte("RIFX\x04\x00\x00\x00WAVE"), api.ErrWav)
	tellsNone(t, []byte("WAVE\x04\x00\x00\x00RIFF"), api.ErrWav)
	tellsNone(t, []byte("\x00"), api.ErrWav)
}

// P25.3: how many bytes follow.
func TestSize(t *testing.T) {
	for _, whole := range [][]byte{of(), written(mono(8, 1, 2, 3)), of(chunk("abcd", make([]byte, 300)...))} {
		n := len(whole) - 8
		for _, size := range []int{0, 1, n - 4, n - 2, n - 1, n + 1, n + 2, n + 8, n ^ 1<<8, n ^ 1<<16, n ^ 1<<24, 1<<31 + n, 1<<32 - 1} {
			b := bytes.Clone(whole)
			copy(b[4:], four(size))
			if size != n {
				tellsNone(t, b, api.ErrSize)
			}
		}
		for at := 4; at < 8; at++ {
			for change := 1; change < 256; change++ {
				b := bytes.Clone(whole)
				b[at] ^= byte(change)
				tellsNone(t, b, api.ErrSize)
			}
		}
		for cut := 12; cut < len(whole); cut++ {
			tellsNone(t, whole[:cut], api.ErrSize)
		}
		tellsNone(t, append(bytes.Clone(whole), 0), api.ErrSize)
	}
}

// sized are bytes whose size says how many follow.
func sized(b []byte) []byte {
	b = bytes.Clone(b)
	copy(b[4:], four(len(b)-8))
	return b
}

// P25.3: chunks of which something is missing, wherever they are cut off.
func TestChunkEnds(t *testing.T) {
	chunks := [][]byte{chunk("abcd", 1, 2, 3), chunk("none"), chunk("two ", 1, 2), chunk("data", 5)}
	whole := of(chunks...)
	ends := []int{12}
	for _, c := range chunks {
		ends = append(ends, ends[len(ends)-1]+len(c))
	}
	for cut := 12; cut <= len(whole); cut++ {
		b := sized(whole[:cut])
		place := slices.Index(ends, cut)
		if place < 0 {
			tellsNone(t, b, api.ErrEnd)
			continue
		}
		if l, e := wav.Chunks(b); e != api.OK || len(l) != place {
			t.Errorf("cut off at %d: %v, error %d", cut, l, e)
		}
	}
	for _, size := range []int{1, 2, 3, 1 << 8, 1<<31 - 1, 1 << 31, 1<<32 - 2, 1<<32 - 1} {
		tellsNone(t, of([]byte("abcd"), four(size)), api.ErrEnd)
		tellsNone(t, of(chunk("data", 1, 2), []byte("abcd"), four(max(size, 5)), make([]byte, 4)), api.ErrEnd)
	}
	// Of an odd size the byte behind is missing, though all others are there.
	tellsNone(t, of([]byte("abcd"), four(3), []byte{1, 2, 3}), api.ErrEnd)
}

// P25.3: the byte behind an odd size.
func TestBehindOdd(t *testing.T) {
	for behind := range 256 {
		for _, size := range []int{1, 3, 255} {
			b := of([]byte("abcd"), four(size), bytes.Repeat([]byte{9}, size), []byte{byte(behind)}, chunk("more"))
			if behind != 0 {
				tellsNone(t, b, api.ErrBits)
				continue
			}
			tells(t, b, wav.Chunk{Name: "abcd", At: 20, Size: size}, wav.Chunk{Name: "more", At: 29 + size})
		}
	}
	odd := []byte("abcd\x01\x00\x00\x00\x09\x01")
	// The first chunk that may not be tells the error.
	tellsNone(t, of(odd, []byte("end")), api.ErrBits)
	tellsNone(t, of(chunk("good", 1), odd, []byte("end")), api.ErrBits)
	tellsNone(t, of([]byte("abcd"), four(40), odd), api.ErrEnd)
	// Behind an even size there is no such byte.
	tells(t, of(chunk("even", 1, 2), chunk("\x01odd", 1)), wav.Chunk{Name: "even", At: 20, Size: 2}, wav.Chunk{Name: "\x01odd", At: 30, Size: 1})
	// ErrWav, ErrEnd and ErrSize go ahead of what is wrong with chunks.
	b := of(odd)
	b[4]++
	tellsNone(t, b, api.ErrSize)
	b[8]++
	tellsNone(t, b, api.ErrWav)
}

// P25.4: chunks that may not stand where they do.
func TestReadChunks(t *testing.T) {
	s := mono(8, 1, 2, 3)
	form, data, other := formatChunk(s.Format), dataChunk(s), chunk("LIST", 1, 2, 3)
	readsNone(t, of(), api.ErrChunk)
	readsNone(t, of(form), api.ErrChunk)
	readsNone(t, of(form, other), api.ErrChunk)
	readsNone(t, of(other), api.ErrChunk)
	readsNone(t, of(data), api.ErrChunk)
	readsNone(t, of(chunk("data")), api.ErrChunk)
	readsNone(t, of(data, form), api.ErrChunk)
	readsNone(t, of(data, form, data), api.ErrChunk)
	readsNone(t, of(form, form, data), api.ErrChunk)
	readsNone(t, of(form, data, form), api.ErrChunk)
	readsNone(t, of(form, data, data), api.ErrChunk)
	readsNone(t, of(form, data, other, data), api.ErrChunk)
	readsNone(t, of(form, data, chunk("data")), api.ErrChunk)
	readsNone(t, of(form, chunk("data"), data), api.ErrChunk)
	readsNone(t, of(form, data, chunk("fmt ")), api.ErrChunk)
	reads(t, of(form, data), s)
	for size := range 60 {
		c := chunk("fmt ", append(bytes.Clone(form[8:]), make([]byte, 44)...)[:size]...)
		if size == 16 {
			reads(t, of(c, data), s)
			continue
		}
		readsNone(t, of(c, data), api.ErrChunk)
	}
}

// P25.4: the numbers of a format chunk.
func TestReadFormat(t *testing.T) {
	rest := chunk("data")
	for _, f := range formats() {
		reads(t, of(formatChunk(f), rest), api.Sound{Format: f, Samples: make([][]int, f.Channels)})
		frame := f.Channels * wide(f.Bits)
		right := [6]int{1, f.Channels, f.Rate, f.Rate * frame, frame, f.Bits}
		for place, v := range right {
			for _, other := range []int{0, v - 1, v + 1, v ^ 0x0100, v ^ 0x8000, 2 * v, 0xFFFF, v &^ 0xFF, 0xFFFE} {
				n := right
				n[place] = other & 0xFFFF
				if place == 2 || place == 3 {
					n[place] = other
				}
				b := of(formatOf(n[0], n[1], n[2], n[3], n[4], n[5]), rest)
				asTheWords(t, b)
				if place < 5 && n != right {
					readsNone(t, b, api.ErrFormat)
				}
			}
		}
	}
}

// P25.4: numbers that follow from one another, but of no right format.
func TestReadNoFormat(t *testing.T) {
	rest := chunk("data")
	for _, channels := range []int{0, 1, 2, 8, 9, 16, 255, 256, 257, 1<<16 - 1} {
		for _, bits := range []int{0, 1, 7, 8, 16, 24, 25, 32, 64, 256 + 8, 1<<16 - 1} {
			for _, rate := range []int{0, 1, 1<<20 - 1, 1 << 20, 1<<20 + 1, 1 << 31, 1<<32 - 1} {
				for _, width := range []int{0, 1, 2, 3, 4, 8, (bits + 7) / 8} {
					frame := channels * width & 0xFFFF
					f := api.Format{Channels: channels, Bits: bits, Rate: rate}
					b := of(formatOf(1, channels, rate, rate*frame, frame, bits), rest)
					isRight := (channels == 1 || channels == 2 || channels == 8) && (bits == 8 || bits == 16 || bits == 24) && (rate == 1 || rate == 1<<20-1)
					if isRight && width == wide(bits) {
						reads(t, b, api.Sound{Format: f, Samples: make([][]int, channels)})
						continue
					}
					readsNone(t, b, api.ErrFormat)
				}
			}
		}
	}
}

// P25.4: each bit of a format chunk turned.
func TestReadTurnedFormat(t *testing.T) {
	x := noise(2)
	for _, f := range formats() {
		s := x.sound(f, 4)
		whole, wrong := written(s), 0
		for at := 20 * 8; at < 36*8; at++ {
			b := bytes.Clone(whole)
			b[at/8] ^= 1 << (at % 8)
			if asTheWords(t, b) == api.ErrFormat {
				wrong++
			}
		}
		// But for other bits of the same width no number may be another one.
		if wrong < 128-5 {
			t.Errorf("%v: %d", f, wrong)
		}
	}
}

// P25.4: data of no whole number of frames.
func TestReadLength(t *testing.T) {
	for _, f := range formats() {
		frame := f.Channels * wide(f.Bits)
		for n := range 3*frame + 1 {
			// Silence: of 8 bits that is no byte 0.
			data := make([]byte, n)
			b := of(formatChunk(f), chunk("data", data...))
			if n%frame != 0 {
				readsNone(t, b, api.ErrLength)
				continue
			}
			if asTheWords(t, b) != api.OK {
				t.Fatalf("%v, %d bytes", f, n)
			}
		}
	}
}

// P25.4: bits that are not the sample's own.
func TestReadSample(t *testing.T) {
	x := noise(3)
	for _, f := range formats() {
		s := x.sound(f, 3)
		whole, width := written(s), wide(f.Bits)
		free := 8*width - f.Bits
		for sample := range 3 * f.Channels {
			for bit := range 8 * width {
				b := bytes.Clone(whole)
				b[44+sample*width+bit/8] ^= 1 << (bit % 8)
				if bit < free {
					readsNone(t, b, api.ErrSample)
					continue
				}
				if asTheWords(t, b) != api.OK {
					t.Fatalf("%v, bit %d", f, bit)
				}
			}
		}
	}
}

// P25.4: of several errors the first one, chunk by chunk.
func TestReadOrder(t *testing.T) {
	s := mono(12, 1, 2, 3)
	form, data := formatChunk(s.Format), dataChunk(s)
	noForm := formatOf(2, 1, 8000, 16000, 2, 12)
	long, short := chunk("fmt ", make([]byte, 18)...), chunk("data", 1, 2, 3)
	sample, both := chunk("data", 0x11, 2), chunk("data", 0x11, 2, 3)
	odd := []byte("abcd\x01\x00\x00\x00\x09\x01")
	for _, c := range []struct {
		want   api.Errno
		chunks [][]byte
	}{
		{api.ErrFormat, [][]byte{noForm, form, data}},
		{api.ErrFormat, [][]byte{noForm, data, data}},
		{api.ErrFormat, [][]byte{noForm, short}},
		{api.ErrFormat, [][]byte{noForm}},
		{api.ErrChunk, [][]byte{form, noForm, data}},
		{api.ErrChunk, [][]byte{form, long, short}},
		{api.ErrChunk, [][]byte{short, noForm}},
		{api.ErrChunk, [][]byte{sample, form}},
		{api.ErrChunk, [][]byte{form, data, short}},
		{api.ErrChunk, [][]byte{form, data, sample}},
		{api.ErrChunk, [][]byte{form, data, noForm}},
		{api.ErrLength, [][]byte{form, short, data}},
		{api.ErrLength, [][]byte{form, short, form}},
		{api.ErrLength, [][]byte{form, both}},
		{api.ErrSample, [][]byte{form, sample, data}},
		{api.ErrSample, [][]byte{form, sample, long}},
		{api.ErrBits, [][]byte{noForm, odd}},
		{api.ErrBits, [][]byte{data, odd}},
		{api.ErrBits, [][]byte{form, short, data, odd}},
		{api.ErrEnd, [][]byte{noForm, []byte("abc")}},
		{api.ErrEnd, [][]byte{form, sample, []byte("data\x02\x00\x00\x00\x00")}},
	} {
		readsNone(t, of(c.chunks...), c.want)
		asTheWords(t, of(c.chunks...))
	}
}

// P25.6, and the same between both and behind them; the names of such are others in one letter, too.
func TestUnknownChunks(t *testing.T) {
	x := noise(4)
	names := []string{"LIST", "fact", "FMT ", "fmt\x00", "fmt_", "Data", "DATA", "dat ", " dat", "RIFF", "WAVE", "\x00\x00\x00\x00", "\xFF\xFE\xFD\xFC"}
	for _, name := range names {
		for size := range 6 {
			s := x.sound(x.format(), x.next(5))
			c, form, data := chunk(name, x.bytes(size)...), formatChunk(s.Format), dataChunk(s)
			for _, b := range [][]byte{of(c, form, data), of(form, c, data), of(form, data, c), of(c, c, form, c, c, data, c, c)} {
				reads(t, b, s)
			}
		}
	}
	// What looks like one of both, in another one's bytes, is none.
	s := mono(16, 7, -7)
	form, data := formatChunk(s.Format), dataChunk(s)
	reads(t, of(chunk("LIST", slices.Concat(data, form)...), form, chunk("LIST", form...), data, chunk("LIST", data...)), s)
}

// What is handed in is not kept, and no lists share memory.
func TestNothingIsShared(t *testing.T) {
	s := noise(5).pair()
	b, e := wav.Write(s)
	if e != api.OK {
		t.Fatal(e)
	}
	want, was := bytes.Clone(b), kept(s)
	for _, l := range s.Samples {
		clear(l)
	}
	if !bytes.Equal(b, want) {
		t.Error("bytes have changed with the sound")
	}
	got, _ := wav.Read(b)
	l, _ := wav.Chunks(b)
	clear(b)
	if !same(got, was) || l[1].Name != "data" {
		t.Error("sound has changed with the bytes")
	}
	_ = append(got.Samples[0], 77, 78, 79)
	got.Samples[0][0] = 99
	if !slices.Equal(got.Samples[1], was.Samples[1]) {
		t.Error("two lists share memory")
	}
	again, _ := wav.Write(was)
	clear(again)
	if third, _ := wav.Write(was); !bytes.Equal(third, want) {
		t.Error("two answers share memory")
	}
}

// pair is sound of two channels.
func (x noise) pair() api.Sound {
	return x.sound(api.Format{Channels: 2, Bits: 16, Rate: 8000}, 9)
}

// damaged are bytes, a few of which are others, or missing, or more.
func (x *noise) damaged(b []byte) []byte {
	b = bytes.Clone(b)
	for range 1 + x.next(4) {
		at := x.next(len(b) + 1)
		switch x.next(6) {
		case 0:
			b = b[:at]
		case 1:
			b = slices.Insert(b, at, x.bytes(1+x.next(4))...)
		case 2:
			b = slices.Delete(b, at, min(at+1+x.next(4), len(b)))
		default:
			if at < len(b) {
				b[at] ^= 1 << x.next(8)
			}
		}
	}
	// With the size that they have more of them come to their chunks.
	if x.next(4) > 0 && len(b) >= 8 {
		b = sized(b)
	}
	return b
}

// P25.3, P25.4, and that every call ends: whatever bytes.
func TestWhateverBytes(t *testing.T) {
	x, seen := noise(6), map[api.Errno]int{}
	for range 40000 {
		s := x.sound(x.format(), x.next(4))
		chunks := [][]byte{formatChunk(s.Format), dataChunk(s)}
		for range x.next(3) {
			c := chunk([]string{"LIST", "data", "fmt "}[x.next(3)], x.bytes(x.next(20))...)
			chunks = slices.Insert(chunks, x.next(len(chunks)+1), c)
		}
		b := of(chunks...)
		seen[asTheWords(t, b)]++
		seen[asTheWords(t, x.damaged(b))]++
	}
	for n := range 60 {
		for range 20 {
			b := x.bytes(n)
			seen[asTheWords(t, b)]++
			seen[asTheWords(t, of(b))]++
		}
	}
	for _, e := range []api.Errno{api.OK, api.ErrWav, api.ErrEnd, api.ErrSize, api.ErrBits, api.ErrChunk, api.ErrFormat, api.ErrLength, api.ErrSample} {
		if seen[e] < 100 {
			t.Errorf("error %d came %d times", e, seen[e])
		}
	}
}

// What is read of a WAV that has both chunks alone, with right sizes, is written as the bytes that it was.
func TestReadIsWritten(t *testing.T) {
	x := noise(7)
	for range 2000 {
		f := x.format()
		data := x.bytes(x.next(4) * f.Channels * wide(f.Bits))
		b := of(formatChunk(f), chunk("data", data...))
		s, e := wav.Read(b)
		if e == api.ErrSample {
			continue
		}
		if again, e2 := wav.Write(s); e != api.OK || e2 != api.OK || !bytes.Equal(again, b) {
			t.Fatalf("% X: errors %d, %d, % X", b, e, e2, again)
		}
	}
}

// Very many chunks, and very long names of none.
func TestManyChunks(t *testing.T) {
	b := of(bytes.Repeat(chunk("abcd"), 100000))
	l, e := wav.Chunks(b)
	if e != api.OK || len(l) != 100000 || l[99999] != (wav.Chunk{Name: "abcd", At: len(b)}) {
		t.Errorf("%d chunks, error %d", len(l), e)
	}
	readsNone(t, b, api.ErrChunk)
	tellsNone(t, of([]byte(strings.Repeat("a", 100000))), api.ErrEnd)
}
