package file_test

import (
	"bytes"
	"encoding/binary"
	"encoding/hex"
	"math"
	"slices"
	"strings"
	"testing"

	"descant/api"
	"descant/crc"
	"descant/file"
	"descant/head"
	"descant/info"
	"descant/tags"
	"descant/tail"
)

const (
	infoLong  = 19 // bytes of info
	noTags    = 7  // bytes of no tags
	noTail    = 18 // bytes of a tail without places
	blockLong = 36 // bytes of a block without payload
	mostCount = 1<<32 - 1
	someSum   = 0xCBF43926
	greatStep = 1 << 31
)

// noise is numbers that look like chance, and are the same ones at each run.
type noise uint64

func (x *noise) next(n int) int {
	*x = *x*6364136223846793005 + 1442695040888963407
	return int(*x >> 33 % noise(n))
}

func (x *noise) bytes(n int) []byte {
	b := make([]byte, n)
	for i := range b {
		b[i] = byte(x.next(256))
	}
	return b
}

// one tells whether something that comes to pass once of n times does.
func (x *noise) one(n int) bool {
	return x.next(n) == 0
}

// info is right info.
func (x *noise) info() api.Info {
	i := api.Info{
		Kind:   1 + x.next(3),
		Format: api.Format{Channels: 1 + x.next(8), Bits: 8 + x.next(17), Rate: 1 + x.next(api.MaxRate)},
		Block:  api.MinBlock + x.next(1<<x.next(17)),
		Shape:  x.next(4),
	}
	i.Block = min(i.Block, api.MaxBlock)
	if i.Kind == api.Lossless {
		i.Shape = 0
	}
	return i
}

// tags are up to three of them.
func (x *noise) tags() []api.Tag {
	l := []api.Tag{{Key: "Title", Value: "né"}, {Key: "E", Value: "EN\u078cDSC1"}, {Key: "x"}}
	return l[x.next(4):]
}

// head is the head of a block that may be next behind index full ones.
func (x *noise) head(i api.Info, index int) api.Head {
	h := api.Head{Kind: i.Kind, Index: index, Length: i.Block, Step: 1}
	if i.Kind != api.Lossless {
		h.Step = 1 + x.next(1<<x.next(i.Format.Bits))
		h.Bound = x.next(h.Step/2 + 1)
	}
	switch i.Kind {
	case api.Base:
		h.Last = x.one(3)
	case api.Correction:
		h.Link = uint32(x.next(1 << 31))
	}
	return h
}

// file is one of up to n blocks, the last of which may be short; by the table's sums.
func (x *noise) file(t *crc.Table, n int) file.File {
	f := file.File{Info: x.info(), Tags: x.tags()}
	f.Tail.Sum = uint32(x.next(1 << 31))
	n = x.next(n + 1)
	for index := range n {
		h := x.head(f.Info, index)
		if index == n-1 && x.one(2) {
			h.Length = 1 + x.next(f.Info.Block)
		}
		f.Blocks = append(f.Blocks, file.Block{Head: h, Payload: x.bytes(x.next(1 << x.next(8)))})
	}
	return settled(t, f)
}

// settled is a file whose blocks' sizes, sums and places, and whose tail, but for the Sum, are what they must be.
func settled(t *crc.Table, f file.File) file.File {
	f.Blocks = slices.Clone(f.Blocks)
	f.Tail.Count, f.Tail.Places = 0, nil
	at := len(infoBytes(t, f.Info)) + len(tagBytes(t, f.Tags))
	for k := range f.Blocks {
		b := &f.Blocks[k]
		b.Head.Size, b.At = len(b.Payload), at
		long := blockBytes(t, *b)
		b.Sum = binary.LittleEndian.Uint32(long[len(long)-4:])
		at += len(long)
		f.Tail.Count += b.Head.Length
		f.Tail.Places = append(f.Tail.Places, b.At)
	}
	return f
}

// field is a number as so many bytes, the lowest one first.
func field(v, n int) []byte {
	return binary.LittleEndian.AppendUint64(nil, uint64(v))[:n]
}

// summed are bytes, one behind the other, and their sum behind them.
func summed(t *crc.Table, l ...[]byte) []byte {
	b := slices.Concat(l...)
	return append(b, field(int(t.Sum(b)), 4)...)
}

// infoBytes are info's bytes, as the words say it; also of info that is not right.
func infoBytes(t *crc.Table, i api.Info) []byte {
	f := i.Format
	return summed(t, []byte("DSC1"), []byte{byte(i.Kind), byte(f.Channels), byte(f.Bits), byte(i.Shape)}, field(f.Rate, 3), field(i.Block, 4))
}

// tagBytes are tags' bytes, likewise.
func tagBytes(t *crc.Table, l []api.Tag) []byte {
	b := []byte{'T', 'G', byte(len(l))}
	for _, x := range l {
		b = slices.Concat(b, field(len(x.Key), 1), []byte(x.Key), field(len(x.Value), 2), []byte(x.Value))
	}
	return summed(t, b)
}

// blockBytes are a block's bytes, likewise.
func blockBytes(t *crc.Table, b file.Block) []byte {
	h, last := b.Head, byte(0)
	if h.Last {
		last = 1
	}
	front := summed(t, []byte{0xDE, 0x5C, byte(h.Kind), last},
		field(h.Index, 4), field(h.Length, 4), field(h.Step, 4), field(h.Bound, 4), field(int(h.Link), 4), field(h.Size, 4))
	return summed(t, front, b.Payload)
}

// tailBytes are a tail's bytes, likewise.
func tailBytes(t *crc.Table, x api.Tail) []byte {
	b := slices.Concat([]byte("EN"), field(x.Count, 4), field(int(x.Sum), 4), field(len(x.Places), 4))
	for _, p := range x.Places {
		b = append(b, field(p, 5)...)
	}
	return summed(t, b)
}

// blocksOf are a file's blocks as bytes.
func blocksOf(t *crc.Table, f file.File) [][]byte {
	var l [][]byte
	for _, b := range f.Blocks {
		l = append(l, blockBytes(t, b))
	}
	return l
}

// bytesOf are a file's bytes, whatever it says.
func bytesOf(t *crc.Table, f file.File) []byte {
	return slices.Concat(infoBytes(t, f.Info), tagBytes(t, f.Tags), bytes.Join(blocksOf(t, f), nil), tailBytes(t, f.Tail))
}

// isSame tells whether two files are the same in all.
func isSame(f, g file.File) bool {
	return f.Info == g.Info && slices.Equal(f.Tags, g.Tags) && slices.EqualFunc(f.Blocks, g.Blocks, isSameBlock) &&
		f.Tail.Count == g.Tail.Count && f.Tail.Sum == g.Tail.Sum && slices.Equal(f.Tail.Places, g.Tail.Places)
}

func isSameBlock(a, b file.Block) bool {
	return a.Head == b.Head && bytes.Equal(a.Payload, b.Payload) && a.Sum == b.Sum && a.At == b.At
}

// next is why a block may not be next, as the words say it.
func next(i api.Info, h api.Head, index int, short bool) api.Errno {
	if h.Kind != i.Kind {
		return api.ErrKind
	}
	if h.Index != index {
		return api.ErrIndex
	}
	if short || h.Length > i.Block {
		return api.ErrLength
	}
	if i.Format.Bits < 1 || i.Format.Bits > 32 {
		return api.ErrHead
	}
	most := 1
	for range i.Format.Bits - 1 {
		most *= 2
	}
	if h.Step < 1 || h.Step > most {
		return api.ErrHead
	}
	return api.OK
}

// behind is why a block may not be next behind these, of all of which is asked whether they are as long as blocks are.
func behind(i api.Info, h api.Head, ahead []api.Head) api.Errno {
	short := false
	for _, x := range ahead {
		short = short || x.Length != i.Block
	}
	return next(i, h, len(ahead), short)
}

// built is what Build answers, as the words say it.
func built(t *crc.Table, i api.Info, l []api.Tag, blocks [][]byte, sum uint32) ([]byte, api.Errno) {
	if t == nil {
		return nil, api.ErrNil
	}
	b, e := info.Put(t, i)
	if e != api.OK {
		return nil, e
	}
	words, e := tags.Put(t, l)
	if e != api.OK {
		return nil, e
	}
	b = append(b, words...)
	var heads []api.Head
	x := api.Tail{Sum: sum}
	for _, one := range blocks {
		h, payload, _, e := head.Open(t, one)
		if e != api.OK {
			return nil, e
		}
		if len(one) != blockLong+len(payload) {
			return nil, api.ErrMore
		}
		if e := behind(i, h, heads); e != api.OK {
			return nil, e
		}
		heads = append(heads, h)
		x.Count += h.Length
		if x.Count > mostCount {
			return nil, api.ErrCount
		}
		x.Places = append(x.Places, len(b))
		b = append(b, one...)
	}
	return append(b, tailBytes(t, x)...), api.OK
}

// parsed is what Parse answers, as the words say it.
func parsed(t *crc.Table, b []byte) (file.File, api.Errno) {
	i, e := info.Get(t, b)
	if e != api.OK {
		return file.File{}, e
	}
	l, long, e := tags.Get(t, b[infoLong:])
	if e != api.OK {
		return file.File{}, e
	}
	f := file.File{Info: i, Tags: l}
	var heads []api.Head
	want := api.Tail{}
	at := infoLong + long
	for {
		if at == len(b) {
			return file.File{}, api.ErrEnd
		}
		if b[at] == 'E' {
			break
		}
		h, payload, sum, e := head.Open(t, b[at:])
		if e != api.OK {
			return file.File{}, e
		}
		if e := behind(i, h, heads); e != api.OK {
			return file.File{}, e
		}
		heads = append(heads, h)
		want.Count += h.Length
		want.Places = append(want.Places, at)
		f.Blocks = append(f.Blocks, file.Block{Head: h, Payload: payload, Sum: sum, At: at})
		at += blockLong + len(payload)
	}
	x, long, e := tail.Get(t, b[at:])
	switch {
	case e != api.OK:
		return file.File{}, e
	case at+long < len(b):
		return file.File{}, api.ErrMore
	case x.Count != want.Count:
		return file.File{}, api.ErrCount
	case !slices.Equal(x.Places, want.Places):
		return file.File{}, api.ErrTail
	}
	f.Tail = x
	return f, api.OK
}

// builds fails, if of these parts another file is built than the words say, or if they have changed; and tells the error.
func builds(t *testing.T, table *crc.Table, i api.Info, l []api.Tag, blocks [][]byte, sum uint32) api.Errno {
	t.Helper()
	want, we := built(table, i, l, blocks, sum)
	words, parts := slices.Clone(l), make([][]byte, len(blocks))
	for k := range blocks {
		parts[k] = slices.Clone(blocks[k])
	}
	b, e := file.Build(table, i, l, blocks, sum)
	if e != we || !bytes.Equal(b, want) {
		t.Fatalf("%+v, %d blocks: %d bytes, error %d, not %d bytes, error %d", i, len(blocks), len(b), e, len(want), we)
	}
	if !slices.Equal(l, words) || !slices.EqualFunc(blocks, parts, bytes.Equal) {
		t.Fatal("what was handed in has changed")
	}
	return e
}

// parses fails, if bytes are parsed as another file than the words say, or if they have changed; and tells the error.
func parses(t *testing.T, table *crc.Table, b []byte) api.Errno {
	t.Helper()
	want, we := parsed(table, b)
	was := slices.Clone(b)
	f, e := file.Parse(table, b)
	if e != we || !isSame(f, want) {
		t.Fatalf("%d bytes: %d blocks, error %d, not %d blocks, error %d", len(b), len(f.Blocks), e, len(want.Blocks), we)
	}
	if !bytes.Equal(b, was) {
		t.Fatal("what was handed in has changed")
	}
	return e
}

// refuses fails, if bytes are parsed at all, or refused by another error.
func refuses(t *testing.T, table *crc.Table, b []byte, want api.Errno) {
	t.Helper()
	f, e := file.Parse(table, b)
	if e != want || !isSame(f, file.File{}) {
		t.Fatalf("%d bytes: %d blocks, error %d, not %d", len(b), len(f.Blocks), e, want)
	}
}

// buildsNone fails, if a file is built, or refused by another error.
func buildsNone(t *testing.T, table *crc.Table, i api.Info, l []api.Tag, blocks [][]byte, want api.Errno) {
	t.Helper()
	if b, e := file.Build(table, i, l, blocks, someSum); e != want || len(b) > 0 {
		t.Fatalf("%+v, %d blocks: %d bytes, error %d, not %d", i, len(blocks), len(b), e, want)
	}
}

// strange are tables that Make did not make.
func strange() []*crc.Table {
	x, few, noughts := noise(7), &crc.Table{}, &crc.Table{}
	for i := range few {
		few[i] = uint32(x.next(1 << 31))
	}
	return []*crc.Table{few, noughts}
}

// plain is a file of three blocks, the last of which is short.
func plain(t *crc.Table) file.File {
	return settled(t, file.File{
		Info: api.Info{Kind: api.Base, Format: api.Format{Channels: 1, Bits: 8, Rate: 8000}, Block: 256, Shape: 2},
		Tags: []api.Tag{{Key: "Title", Value: "né"}},
		Blocks: []file.Block{
			{Head: api.Head{Kind: api.Base, Length: 256, Step: 4, Bound: 2}, Payload: []byte{1, 2, 3}},
			{Head: api.Head{Kind: api.Base, Index: 1, Length: 256, Step: 128, Last: true}},
			{Head: api.Head{Kind: api.Base, Index: 2, Length: 88, Step: 1}, Payload: []byte("EN")},
		},
		Tail: api.Tail{Sum: someSum},
	})
}

// full is a file of n full blocks without payload.
func full(t *crc.Table, n int) file.File {
	f := file.File{Info: api.Info{Kind: api.Lossless, Format: api.Format{Channels: 1, Bits: 8, Rate: 1}, Block: api.MaxBlock}}
	for k := range n {
		f.Blocks = append(f.Blocks, file.Block{Head: api.Head{Kind: api.Lossless, Index: k, Length: api.MaxBlock, Step: 1}})
	}
	return settled(t, f)
}

// P29.1: of each number that is asked, those at its edges, each with each other one.
func TestNext(t *testing.T) {
	least := math.MinInt
	seen := map[api.Errno]int{}
	for _, kind := range []int{api.Base, api.Correction, api.Lossless, 0, 4, -1} {
		for _, bits := range []int{1, 2, 8, 16, 24, 32, 33, 0, -1, least, math.MaxInt} {
			i := api.Info{Kind: kind, Format: api.Format{Channels: 1, Bits: bits, Rate: 1}, Block: 256}
			for _, h := range heads(kind, bits) {
				for _, index := range []int{0, 1, -1, math.MaxInt, least} {
					for _, short := range []bool{false, true} {
						want := next(i, h, index, short)
						if e := file.Next(i, h, index, short); e != want {
							t.Fatalf("%+v, %+v, %d, %v: error %d, not %d", i, h, index, short, e, want)
						}
						seen[want]++
					}
				}
			}
		}
	}
	for _, e := range []api.Errno{api.OK, api.ErrKind, api.ErrIndex, api.ErrLength, api.ErrHead} {
		if seen[e] < 100 {
			t.Errorf("error %d: %d times", e, seen[e])
		}
	}
}

// heads are such as may be next, or not, of a kind and so many bits.
func heads(kind, bits int) []api.Head {
	most := 1 << (min(max(bits, 1), 32) - 1)
	var l []api.Head
	for _, k := range []int{kind, kind + 1} {
		for _, index := range []int{0, 1, 2, -1, math.MaxInt, math.MinInt} {
			for _, length := range []int{256, 257, 255, 1, 0, -1, math.MaxInt, math.MinInt} {
				for _, step := range []int{1, most, most + 1, most - 1, 0, -1, greatStep, math.MaxInt, math.MinInt} {
					l = append(l, api.Head{Kind: k, Index: index, Length: length, Step: step})
				}
			}
		}
	}
	return l
}

// P29.1: the errors one by one, and of several the first one.
func TestNextByHand(t *testing.T) {
	i := api.Info{Kind: api.Base, Format: api.Format{Channels: 1, Bits: 8, Rate: 8000}, Block: 256}
	good := api.Head{Kind: api.Base, Index: 3, Length: 256, Step: 128}
	for _, x := range []struct {
		set   func(h *api.Head)
		short bool
		want  api.Errno
	}{
		{func(h *api.Head) {}, false, api.OK},
		{func(h *api.Head) { h.Length = 1 }, false, api.OK},
		{func(h *api.Head) { h.Bound, h.Last, h.Link, h.Size = -1, true, 1, -1 }, false, api.OK},
		{func(h *api.Head) { h.Kind = api.Lossless }, false, api.ErrKind},
		{func(h *api.Head) { h.Index = 2 }, false, api.ErrIndex},
		{func(h *api.Head) { h.Index = 4 }, false, api.ErrIndex},
		{func(h *api.Head) { h.Length = 257 }, false, api.ErrLength},
		{func(h *api.Head) {}, true, api.ErrLength},
		{func(h *api.Head) { h.Step = 129 }, false, api.ErrHead},
		{func(h *api.Head) { h.Step = 0 }, false, api.ErrHead},
		{func(h *api.Head) { h.Kind, h.Index, h.Length, h.Step = 0, 0, 257, 0 }, true, api.ErrKind},
		{func(h *api.Head) { h.Index, h.Length, h.Step = 0, 257, 0 }, true, api.ErrIndex},
		{func(h *api.Head) { h.Length, h.Step = 257, 0 }, true, api.ErrLength},
		{func(h *api.Head) { h.Step = 0 }, true, api.ErrLength},
	} {
		h := good
		x.set(&h)
		if e := file.Next(i, h, 3, x.short); e != x.want {
			t.Errorf("%+v, %v: error %d, not %d", h, x.short, e, x.want)
		}
	}
	// Also ahead of all blocks the last one counts as short, if that is told.
	good.Index = 0
	if e := file.Next(i, good, 0, true); e != api.ErrLength {
		t.Errorf("the first one, behind a short one: error %d", e)
	}
}

// P29.2, P29.3, P29.4: the example, and a file with a tag and a block, byte by byte (sums as a program of its own told them).
func TestByHand(t *testing.T) {
	table := crc.Make()
	i := api.Info{Kind: api.Lossless, Format: api.Format{Channels: 1, Bits: 8, Rate: 8000}, Block: 256}
	front := "44534331 03010800 401f00 00010000 96744439"
	block := "de5c0300 00000000 03000000 01000000 00000000 00000000 03000000 9daa8a9a 010203 71869137"

	empty := unhex(front, "5447 00 bc86cc2b", "454e 00000000 2639f4cb 00000000 d574ee41")
	b, e := file.Build(table, i, nil, nil, someSum)
	if e != api.OK || !bytes.Equal(b, empty) || len(b) != infoLong+noTags+noTail {
		t.Errorf("%x, error %d", b, e)
	}
	f, e := file.Parse(table, empty)
	if e != api.OK || !isSame(f, file.File{Info: i, Tail: api.Tail{Sum: someSum}}) || file.Count(f) != 0 {
		t.Errorf("%+v, error %d", f, e)
	}

	words := []api.Tag{{Key: "a", Value: "b"}}
	one := unhex(front, "5447 01 0161 010062 92693ae2", block, "454e 03000000 2639f4cb 01000000 1f00000000 85fc258f")
	b, e = file.Build(table, i, words, [][]byte{unhex(block)}, someSum)
	if e != api.OK || !bytes.Equal(b, one) {
		t.Errorf("%x, error %d", b, e)
	}
	f, e = file.Parse(table, one)
	h := api.Head{Kind: api.Lossless, Length: 3, Step: 1, Size: 3}
	want := file.File{
		Info:   i,
		Tags:   words,
		Blocks: []file.Block{{Head: h, Payload: []byte{1, 2, 3}, Sum: 0x37918671, At: 31}},
		Tail:   api.Tail{Count: 3, Sum: someSum, Places: []int{31}},
	}
	if e != api.OK || !isSame(f, want) || file.Count(f) != 3 {
		t.Errorf("%+v, error %d", f, e)
	}
}

// unhex is the bytes that texts of digits stand for.
func unhex(l ...string) []byte {
	b, err := hex.DecodeString(strings.ReplaceAll(strings.Join(l, ""), " ", ""))
	if err != nil {
		panic(err)
	}
	return b
}

// P29.2, P29.3, P29.5, P29.7: what is built is parsed as it was, and what is parsed is built, of its own parts, as it was; by whatever table.
func TestThereAndBack(t *testing.T) {
	x := noise(1)
	for round, table := range append(strange(), crc.Make()) {
		for range 400 {
			f := x.file(table, 6)
			b := bytesOf(table, f)
			if e := builds(t, table, f.Info, f.Tags, blocksOf(table, f), f.Tail.Sum); e != api.OK {
				t.Fatalf("table %d: %+v: error %d", round, f.Info, e)
			}
			if e := parses(t, table, b); e != api.OK {
				t.Fatalf("table %d: %+v: error %d", round, f.Info, e)
			}
			back, _ := file.Parse(table, b)
			if !isSame(back, f) || file.Count(back) != f.Tail.Count {
				t.Fatalf("table %d: %+v, not %+v", round, back, f)
			}
			again, e := file.Build(table, back.Info, back.Tags, sealed(t, table, back), back.Tail.Sum)
			if e != api.OK || !bytes.Equal(again, b) {
				t.Fatalf("table %d: %+v: not the bytes that it was", round, f.Info)
			}
		}
	}
}

// sealed are the blocks of a file, made of their heads and payloads.
func sealed(t *testing.T, table *crc.Table, f file.File) [][]byte {
	t.Helper()
	var l [][]byte
	for _, x := range f.Blocks {
		b, sum, e := head.Seal(table, x.Head, x.Payload)
		if e != api.OK || sum != x.Sum {
			t.Fatalf("%+v: error %d", x.Head, e)
		}
		l = append(l, b)
	}
	return l
}

// blockFaults are what may be wrong with a block.
func blockFaults() []func(x *noise, b *file.Block) {
	return []func(x *noise, b *file.Block){
		func(x *noise, b *file.Block) { b.Head.Kind = x.next(5) },
		func(x *noise, b *file.Block) { b.Head.Index += x.next(5) - 2 },
		func(x *noise, b *file.Block) { b.Head.Length += x.next(5) - 2 },
		func(x *noise, b *file.Block) { b.Head.Length = x.next(api.MaxBlock + 2) },
		func(x *noise, b *file.Block) { b.Head.Step = 1 << x.next(32) },
		func(x *noise, b *file.Block) { b.Head.Bound++ },
		func(x *noise, b *file.Block) { b.Head.Last = !b.Head.Last },
		func(x *noise, b *file.Block) { b.Head.Link ^= 1 },
	}
}

// tailFaults are what may be wrong with a tail.
func tailFaults() []func(x *noise, y *api.Tail) {
	return []func(x *noise, y *api.Tail){
		func(x *noise, y *api.Tail) { y.Count += x.next(5) - 2 },
		func(x *noise, y *api.Tail) { y.Sum ^= 1 },
		func(x *noise, y *api.Tail) { y.Places = append(slices.Clone(y.Places), 1<<20+x.next(9)) },
		func(x *noise, y *api.Tail) { y.Places = y.Places[:x.next(len(y.Places)+1)] },
		func(x *noise, y *api.Tail) { y.Places = y.Places[x.next(len(y.Places)+1):] },
		func(x *noise, y *api.Tail) {
			if n := len(y.Places); n > 0 {
				y.Places = slices.Clone(y.Places)
				y.Places[x.next(n)] += x.next(5) - 2
			}
		},
	}
}

// spoil does to a file something that may make it wrong; its sums are right all the same.
func (x *noise) spoil(f *file.File) {
	n := len(f.Blocks)
	kind := x.next(10)
	switch {
	case kind == 0:
		f.Info.Kind = x.next(5)
	case kind == 1:
		f.Info.Block = max(f.Info.Block+x.next(601)-300, 255)
	case kind == 2:
		f.Info.Format.Bits = 7 + x.next(19)
	case kind == 3:
		f.Tags = append(slices.Clone(f.Tags), api.Tag{Key: []string{"title", "y", "", "e"}[x.next(4)]})
	case kind == 4 && n > 1:
		i, k := x.next(n), x.next(n)
		f.Blocks[i], f.Blocks[k] = f.Blocks[k], f.Blocks[i]
	case kind == 5 && n > 0:
		i := x.next(n)
		f.Blocks = slices.Delete(f.Blocks, i, i+1)
	case kind == 6 && n > 0:
		i := x.next(n)
		f.Blocks = slices.Insert(f.Blocks, i, f.Blocks[i])
	case kind < 8 && n > 0:
		l := blockFaults()
		l[x.next(len(l))](x, &f.Blocks[x.next(n)])
	default:
		l := tailFaults()
		l[x.next(len(l))](x, &f.Tail)
	}
}

// P29.3: files that are wrong, though all their sums are right, in one way or in several.
func TestParseWrong(t *testing.T) {
	x, table := noise(2), crc.Make()
	seen := map[api.Errno]int{}
	for range 12000 {
		f := x.file(table, 4)
		for range 1 + x.next(3) {
			x.spoil(&f)
			// Sometimes the tail is then the one of what is there now, and what is ahead of it alone is wrong.
			if x.one(2) {
				f = settled(table, f)
			}
		}
		b := bytesOf(table, f)
		if x.one(8) {
			b = append(b, x.bytes(1+x.next(3))...)
		}
		seen[parses(t, table, b)]++
	}
	for _, e := range []api.Errno{api.OK, api.ErrKind, api.ErrIndex, api.ErrLength, api.ErrHead, api.ErrTag, api.ErrMore, api.ErrCount, api.ErrTail} {
		if seen[e] < 50 {
			t.Errorf("error %d: %d times", e, seen[e])
		}
	}
}

// P29.2: parts that are wrong, though all their sums are right, in one way or in several.
func TestBuildWrong(t *testing.T) {
	x, table := noise(3), crc.Make()
	seen := map[api.Errno]int{}
	for range 12000 {
		f := x.file(table, 4)
		for range 1 + x.next(3) {
			x.spoil(&f)
		}
		f.Tail.Sum = uint32(x.next(1 << 31))
		blocks := blocksOf(table, settled(table, f))
		if n := len(blocks); n > 0 {
			at := x.next(n)
			switch x.next(10) {
			case 0:
				blocks[at] = append(blocks[at], x.bytes(1+x.next(3))...)
			case 1:
				blocks[at] = blocks[at][:x.next(len(blocks[at]))]
			case 2:
				blocks[at][x.next(len(blocks[at]))] ^= 1 << x.next(8)
			case 3:
				blocks[at] = slices.Concat(blocks[at], blocks[x.next(n)])
			}
		}
		seen[builds(t, table, f.Info, f.Tags, blocks, f.Tail.Sum)]++
	}
	for _, e := range []api.Errno{api.OK, api.ErrKind, api.ErrIndex, api.ErrLength, api.ErrHead, api.ErrTag, api.ErrMore, api.ErrSync, api.ErrEnd, api.ErrSum} {
		if seen[e] < 20 {
			t.Errorf("error %d: %d times", e, seen[e])
		}
	}
}

// turned is a block's bytes with one byte turned.
func turned(b []byte, at int) []byte {
	b = slices.Clone(b)
	b[at] ^= 0x10
	return b
}

// P29.2: of several errors the first one; those of a block ahead of those of the blocks behind it.
func TestBuildOrder(t *testing.T) {
	table := crc.Make()
	f := plain(table)
	blocks := blocksOf(table, f)
	wrong := f.Info
	wrong.Block = 255
	twice := []api.Tag{{Key: "a"}, {Key: "A"}}
	none := [][]byte{nil}
	buildsNone(t, nil, wrong, twice, none, api.ErrNil)
	buildsNone(t, nil, f.Info, f.Tags, blocks, api.ErrNil)
	buildsNone(t, table, wrong, twice, none, api.ErrHead)
	buildsNone(t, table, f.Info, twice, none, api.ErrTag)
	buildsNone(t, table, f.Info, make([]api.Tag, 65), none, api.ErrLong)
	buildsNone(t, table, f.Info, []api.Tag{{Key: "a", Value: "\x1F"}}, none, api.ErrText)

	other := f.Blocks[1] // of another kind, with another index, longer, and with too great a step
	other.Head = api.Head{Kind: api.Correction, Index: 7, Length: 257, Step: 129}
	bad := blockBytes(table, other)
	for _, x := range []struct {
		b    []byte
		want api.Errno
	}{
		{nil, api.ErrEnd},
		{bad[:1], api.ErrEnd},
		{turned(bad, 0), api.ErrSync},
		{bad[:31], api.ErrEnd},
		{bad[:35], api.ErrEnd},
		{turned(bad, 4), api.ErrSum},
		{turned(bad, 35), api.ErrSum},
		{append(turned(bad, 35), 0), api.ErrSum},
		{append(bad, 0), api.ErrMore},
		{slices.Concat(bad, bad), api.ErrMore},
		{bad, api.ErrKind},
		{append(blocks[1], 0), api.ErrMore},
	} {
		buildsNone(t, table, f.Info, f.Tags, [][]byte{x.b}, x.want)
		buildsNone(t, table, f.Info, f.Tags, [][]byte{blocks[0], x.b, nil}, x.want)
		buildsNone(t, table, f.Info, f.Tags, [][]byte{blocks[1], x.b}, api.ErrIndex)
	}
	for _, x := range []struct {
		set  func(h *api.Head)
		want api.Errno
	}{
		{func(h *api.Head) { h.Kind = api.Base }, api.ErrIndex},
		{func(h *api.Head) { h.Index = 1 }, api.ErrLength},
		{func(h *api.Head) { h.Length = 256 }, api.ErrHead},
		{func(h *api.Head) { h.Step = 128 }, api.OK},
	} {
		x.set(&other.Head)
		if e := builds(t, table, f.Info, f.Tags, [][]byte{blocks[0], blockBytes(table, other)}, 0); e != x.want {
			t.Errorf("%+v: error %d, not %d", other.Head, e, x.want)
		}
	}
	// Behind a short block there is none, however short.
	if e := builds(t, table, f.Info, nil, append(blocks, blocks[2]), 0); e != api.ErrIndex {
		t.Errorf("the last one twice: error %d", e)
	}
	other.Head.Index, other.Head.Length = 3, 1
	if e := builds(t, table, f.Info, nil, append(blocks, blockBytes(table, other)), 0); e != api.ErrLength {
		t.Errorf("one behind the last one: error %d", e)
	}
}

// P29.3: of several errors the first one; those of a block ahead of those of the blocks behind it.
func TestParseOrder(t *testing.T) {
	table := crc.Make()
	f := plain(table)
	b := bytesOf(table, f)
	refuses(t, nil, b, api.ErrNil)
	refuses(t, nil, nil, api.ErrNil)

	front, words, blocks, behind := infoBytes(table, f.Info), tagBytes(table, f.Tags), blocksOf(table, f), tailBytes(table, f.Tail)
	wrong := f.Info
	wrong.Block = 255
	twice := []api.Tag{{Key: "a"}, {Key: "A"}}
	other := f.Blocks[1]
	other.Head = api.Head{Kind: api.Correction, Index: 7, Length: 257, Step: 129}
	bad := blockBytes(table, other)
	noWords := tagBytes(table, nil)
	for _, x := range []struct {
		parts [][]byte
		want  api.Errno
	}{
		{nil, api.ErrEnd},
		{[][]byte{words}, api.ErrKind},
		{[][]byte{front[:18]}, api.ErrEnd},
		{[][]byte{turned(front, 15), bad}, api.ErrSum},
		{[][]byte{infoBytes(table, wrong), bad}, api.ErrHead},
		{[][]byte{front}, api.ErrEnd},
		{[][]byte{front, behind}, api.ErrKind},
		{[][]byte{front, words[:6]}, api.ErrEnd},
		{[][]byte{front, turned(words, 4), bad}, api.ErrSum},
		{[][]byte{front, tagBytes(table, twice), bad}, api.ErrTag},
		{[][]byte{front, words}, api.ErrEnd},
		{[][]byte{front, noWords}, api.ErrEnd},
		{[][]byte{front, words, {0}}, api.ErrSync},
		{[][]byte{front, words, blocks[0]}, api.ErrEnd},
		{[][]byte{front, words, bad[:35]}, api.ErrEnd},
		{[][]byte{front, words, turned(bad, 35)}, api.ErrSum},
		{[][]byte{front, words, bad, {0}}, api.ErrKind},
		{[][]byte{front, words, blocks[1], {0}}, api.ErrIndex},
		{[][]byte{front, words, blocks[0], {0}, behind}, api.ErrSync},
		{[][]byte{front, words, {'E'}}, api.ErrEnd},
		{[][]byte{front, words, {'E', 'M'}, bad}, api.ErrKind},
		{[][]byte{front, words, {'e'}}, api.ErrSync},
		{[][]byte{front, words, {'N'}}, api.ErrSync},
		{[][]byte{front, words, turned(behind, 6), {0}}, api.ErrSum},
		{[][]byte{front, words, tailBytes(table, api.Tail{Places: []int{2, 1}}), {0}}, api.ErrTail},
		{[][]byte{front, words, []byte("EN12345678"), {1, 0, 0, 1}}, api.ErrTail},
		{[][]byte{front, words, behind, {0}}, api.ErrMore},
		{[][]byte{front, words, behind, behind}, api.ErrMore},
		{[][]byte{front, words, behind}, api.ErrCount},
		{[][]byte{front, words, tailBytes(table, api.Tail{Places: []int{37}})}, api.ErrTail},
		{[][]byte{front, words, tailBytes(table, api.Tail{Sum: someSum})}, api.OK},
	} {
		if e := parses(t, table, bytes.Join(x.parts, nil)); e != x.want {
			t.Errorf("%x: error %d, not %d", x.parts, e, x.want)
		}
	}
	for _, x := range []struct {
		set  func(h *api.Head)
		want api.Errno
	}{
		{func(h *api.Head) { h.Kind = api.Base }, api.ErrIndex},
		{func(h *api.Head) { h.Index = 1 }, api.ErrLength},
		{func(h *api.Head) { h.Length = 256 }, api.ErrHead},
		{func(h *api.Head) { h.Step = 128 }, api.ErrEnd},
	} {
		x.set(&other.Head)
		if e := parses(t, table, slices.Concat(front, words, blocks[0], blockBytes(table, other))); e != x.want {
			t.Errorf("%+v: error %d, not %d", other.Head, e, x.want)
		}
	}
}

// P29.3: the tail of a file of three blocks, with whatever else it may say of them.
func TestParseTail(t *testing.T) {
	table := crc.Make()
	f := plain(table)
	places := f.Tail.Places
	for _, x := range []struct {
		count  int
		places []int
		want   api.Errno
	}{
		{600, places, api.OK},
		{599, places, api.ErrCount},
		{601, places, api.ErrCount},
		{0, nil, api.ErrCount},
		{600, nil, api.ErrTail},
		{600, places[:2], api.ErrTail},
		{600, places[1:], api.ErrTail},
		{600, append(slices.Clone(places), 1<<40-1), api.ErrTail},
		{600, []int{places[0], places[1], places[2] + 1}, api.ErrTail},
		{600, []int{places[0] - 1, places[1], places[2]}, api.ErrTail},
		{600, []int{0, 1, 2}, api.ErrTail},
	} {
		g := f
		g.Tail = api.Tail{Count: x.count, Sum: 5, Places: x.places}
		if e := parses(t, table, bytesOf(table, g)); e != x.want {
			t.Errorf("%d, %v: error %d, not %d", x.count, x.places, e, x.want)
		}
	}
}

// P29.6: what is cut off anywhere is no file, nor is what has more behind it; and no byte may be another one.
func TestCutAndChanged(t *testing.T) {
	x, table := noise(4), crc.Make()
	for range 60 {
		b := bytesOf(table, x.file(table, 4))
		for n := range b {
			if e := parses(t, table, b[:n]); e != api.ErrEnd {
				t.Fatalf("%d bytes of %d: error %d", n, len(b), e)
			}
		}
		for _, more := range [][]byte{{0}, {'E'}, b, {0xDE, 0x5C}, b[len(b)-noTail:], make([]byte, 100)} {
			refuses(t, table, slices.Concat(b, more), api.ErrMore)
		}
	}
	b := bytesOf(table, plain(table))
	for at := range b {
		for turn := 1; turn < 256; turn++ {
			b[at] ^= byte(turn)
			if e := parses(t, table, b); e == api.OK {
				t.Fatalf("byte %d changed: a file", at)
			}
			b[at] ^= byte(turn)
		}
	}
}

// P29.3: whatever bytes are parsed, there is an end.
func TestWhateverBytes(t *testing.T) {
	x, table := noise(5), crc.Make()
	for range 3000 {
		f := x.file(table, 4)
		b := bytesOf(table, f)
		for range 1 + x.next(3) {
			switch at := x.next(len(b)); x.next(4) {
			case 0:
				b[at] = byte(x.next(256))
			case 1:
				b = slices.Delete(b, at, min(at+x.next(40), len(b)))
			case 2:
				b = slices.Insert(b, at, x.bytes(x.next(40))...)
			case 3:
				b = slices.Insert(b, at, b[x.next(at+1):at]...)
			}
			b = append(b, 0)[:max(len(b), 1)]
		}
		parses(t, table, b)
		parses(t, table, x.bytes(x.next(200)))
	}
}

// P29.2, P29.3: as many samples as there may be, and one more.
func TestMostSamples(t *testing.T) {
	table := crc.Make()
	f := full(table, 1<<16)
	blocks := blocksOf(table, f)
	buildsNone(t, table, f.Info, nil, blocks, api.ErrCount)
	// Of a block that is too much, but may not be next either, that is told; not what is wrong behind it.
	buildsNone(t, table, f.Info, nil, append(blocks[:len(blocks):len(blocks)], nil), api.ErrCount)
	buildsNone(t, table, f.Info, nil, append(blocks[:1<<16-1:1<<16-1], blocks[0]), api.ErrIndex)
	// Where they are read, samples are counted at the end alone: no tail can say so many.
	for _, count := range []int{0, mostCount} {
		f.Tail.Count = count
		refuses(t, table, bytesOf(table, f), api.ErrCount)
	}
	refuses(t, table, slices.Concat(infoBytes(table, f.Info), tagBytes(table, nil), bytes.Join(blocks, nil), blocks[0]), api.ErrIndex)

	f.Blocks[1<<16-1].Head.Length--
	f = settled(table, f)
	if f.Tail.Count != mostCount {
		t.Fatal(f.Tail.Count)
	}
	b, e := file.Build(table, f.Info, nil, blocksOf(table, f), 0)
	if e != api.OK || !bytes.Equal(b, bytesOf(table, f)) {
		t.Fatalf("%d bytes, error %d", len(b), e)
	}
	back, e := file.Parse(table, b)
	if e != api.OK || !isSame(back, f) || file.Count(back) != mostCount {
		t.Fatalf("%d blocks, error %d", len(back.Blocks), e)
	}
}

// P29.4: all blocks are counted, whatever else a file is said to be.
func TestCount(t *testing.T) {
	for _, x := range []struct {
		lengths []int
		want    int
	}{
		{nil, 0},
		{[]int{7}, 7},
		{[]int{256, 256, 88}, 600},
		{[]int{1, 0, 5, 65536, 70000}, 135542},
		{[]int{1 << 40, 1 << 40}, 1 << 41},
		{[]int{5, -7}, -2},
	} {
		f := file.File{Tail: api.Tail{Count: 3}}
		for _, n := range x.lengths {
			f.Blocks = append(f.Blocks, file.Block{Head: api.Head{Kind: 9, Length: n}})
		}
		if n := file.Count(f); n != x.want {
			t.Errorf("%v: %d, not %d", x.lengths, n, x.want)
		}
	}
}

// P29.2, P29.3: what is answered stays as it is, whatever becomes of what was handed in, and of the rest of it.
func TestAnswersAreNew(t *testing.T) {
	table := crc.Make()
	want := plain(table)
	b := bytesOf(table, want)
	f, e := file.Parse(table, b)
	again, _ := file.Parse(table, b)
	clear(b)
	if e != api.OK || !isSame(f, want) {
		t.Fatalf("%+v, error %d", f, e)
	}
	for k := range f.Blocks {
		f.Blocks[k].At = 0
		clear(f.Blocks[k].Payload)
		_ = append(f.Blocks[k].Payload, 9, 9, 9)
	}
	clear(f.Tags)
	_ = append(f.Tags, api.Tag{Key: "z"})
	if !slices.Equal(f.Tail.Places, want.Tail.Places) || !isSame(again, want) {
		t.Fatal("a part is shared")
	}

	blocks := blocksOf(table, want)
	b, e = file.Build(table, want.Info, want.Tags, blocks, want.Tail.Sum)
	for k := range blocks {
		clear(blocks[k])
	}
	if e != api.OK || !bytes.Equal(b, bytesOf(table, want)) {
		t.Fatalf("%x, error %d", b, e)
	}
}
