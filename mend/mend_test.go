package mend_test

import (
	"bytes"
	"encoding/hex"
	"math"
	"slices"
	"strings"
	"testing"

	"descant/api"
	"descant/block"
	"descant/crc"
	"descant/file"
	"descant/head"
	"descant/info"
	"descant/mend"
	"descant/window"
)

const (
	frame     = 36      // bytes of a block beside its payload
	headLong  = 32      // bytes of a head
	mostGaps  = 1 << 16 // numbers of which it is told whether a block has them
	mostCount = 1 << 20 // samples that are patched
	order     = 4       // of the predictors by which sound is coded
)

// noise is numbers that look like chance, and are the same ones at each run.
type noise uint64

func (x *noise) next(n int) int {
	*x = *x*6364136223846793005 + 1442695040888963407
	return int(*x >> 33 % noise(n))
}

func (x *noise) bytes(n int) []byte {
	b := make([]byte, n)
	for i := range b {
		b[i] = byte(x.next(256))
	}
	return b
}

// one tells whether something that comes to pass once of n times does.
func (x *noise) one(n int) bool {
	return x.next(n) == 0
}

// head is a right head.
func (x *noise) head() api.Head {
	return api.Head{Kind: 1 + x.next(3), Index: x.next(6), Length: 1 + x.next(api.MaxBlock), Step: 1}
}

// sound is n samples of each channel, each near to the one ahead of it.
func (x *noise) sound(f api.Format, n int) api.Sound {
	s := api.Sound{Format: f}
	most := 1<<(f.Bits-1) - 1
	for range f.Channels {
		l := make([]int, n)
		for i := range l {
			l[i] = min(max(l[max(i-1, 0)]+x.next(21)-10, -most-1), most)
		}
		s.Samples = append(s.Samples, l)
	}
	return s
}

// sealed is a block, and what is found of it, where it begins.
func sealed(t *testing.T, table *crc.Table, at int, h api.Head, payload []byte) ([]byte, mend.Found) {
	t.Helper()
	b, sum, e := head.Seal(table, h, payload)
	if e != api.OK {
		t.Fatalf("%+v: error %d", h, e)
	}
	h.Size = len(payload)
	return b, mend.Found{At: at, Head: h, Payload: payload, Sum: sum}
}

// isSame tells whether a block is found as another one.
func isSame(a, b mend.Found) bool {
	return a.At == b.At && a.Head == b.Head && bytes.Equal(a.Payload, b.Payload) && a.Sum == b.Sum
}

// isSameSound tells whether two sounds are the same in all.
func isSameSound(a, b api.Sound) bool {
	return a.Format == b.Format && slices.EqualFunc(a.Samples, b.Samples, slices.Equal)
}

// copied are blocks of which nothing is shared.
func copied(l []mend.Found) []mend.Found {
	l = slices.Clone(l)
	for i := range l {
		l[i].Payload = slices.Clone(l[i].Payload)
	}
	return l
}

// scanned are the blocks of bytes, and how many bytes are in none, as the words say it.
func scanned(table *crc.Table, b []byte) ([]mend.Found, int) {
	var l []mend.Found
	lost, at := 0, 0
	for at < len(b) {
		h, payload, sum, e := head.Open(table, b[at:])
		if e != api.OK {
			at++
			lost++
			continue
		}
		l = append(l, mend.Found{At: at, Head: h, Payload: payload, Sum: sum})
		at += frame + len(payload)
	}
	return l, lost
}

// finds fails, if in bytes others than these blocks are found, or another number of bytes is in none of them.
func finds(t *testing.T, table *crc.Table, b []byte, want []mend.Found) {
	t.Helper()
	was, lost := slices.Clone(b), len(b)
	for _, f := range want {
		lost -= frame + len(f.Payload)
	}
	l := mend.Scan(table, b)
	if !slices.EqualFunc(l, want, isSame) {
		t.Fatalf("%d bytes: found %+v, not %+v", len(b), l, want)
	}
	if n := mend.Lost(table, b); n != lost {
		t.Fatalf("%d bytes: %d lost, not %d", len(b), n, lost)
	}
	if !bytes.Equal(b, was) {
		t.Fatal("what was handed in has changed")
	}
}

// turned is bytes with one byte turned.
func turned(b []byte, at int) []byte {
	b = slices.Clone(b)
	b[at] ^= 0x10
	return b
}

// unhex is the bytes that a text of digits stands for.
func unhex(text string) []byte {
	b, err := hex.DecodeString(strings.ReplaceAll(text, " ", ""))
	if err != nil {
		panic(err)
	}
	return b
}

// P30.1: the example (its sums as a program of its own told them), and bytes without blocks.
func TestScanByHand(t *testing.T) {
	table := crc.Make()
	one := unhex("de5c0300 00000000 03000000 01000000 00000000 00000000 03000000 9daa8a9a 010203 71869137")
	want := mend.Found{At: 1, Head: api.Head{Kind: api.Lossless, Length: 3, Step: 1, Size: 3}, Payload: []byte{1, 2, 3}, Sum: 0x37918671}
	b := slices.Concat([]byte("x"), one, []byte("y"))
	finds(t, table, b, []mend.Found{want})
	if n := mend.Lost(table, b); n != 2 {
		t.Errorf("%d lost", n)
	}
	for _, b := range [][]byte{nil, {}, {0xDE}, {0xDE, 0x5C}, one[1:], one[:len(one)-1], one[:headLong], make([]byte, 1000), bytes.Repeat([]byte{0xDE, 0x5C}, 500)} {
		finds(t, table, b, nil)
	}
	// Without a table nothing is found, and all is lost.
	finds(t, nil, b, nil)
	finds(t, nil, nil, nil)
}

// P30.1: what begins within a block that is whole is not looked at; if that is damaged anywhere, it is.
func TestScanNested(t *testing.T) {
	table := crc.Make()
	inner, in := sealed(t, table, headLong+2, api.Head{Kind: api.Base, Index: 7, Length: 300, Step: 4, Bound: 2}, []byte("inner"))
	payload := slices.Concat([]byte("ab"), inner, []byte("cd"))
	outer, out := sealed(t, table, 0, api.Head{Kind: api.Correction, Index: 1, Length: 256, Step: 9}, payload)
	finds(t, table, outer, []mend.Found{out})
	for at := range outer {
		if at >= headLong+2 && at < headLong+2+len(inner) {
			finds(t, table, turned(outer, at), nil)
			continue
		}
		finds(t, table, turned(outer, at), []mend.Found{in})
	}
	for n := range outer {
		if n < headLong+2+len(inner) {
			finds(t, table, outer[:n], nil)
			continue
		}
		finds(t, table, outer[:n], []mend.Found{in})
	}
	// A block in a block in a block.
	third, last := sealed(t, table, 0, api.Head{Kind: api.Base, Length: 1, Step: 1}, outer)
	finds(t, table, third, []mend.Found{last})
	out.At, in.At = headLong, 2*headLong+2
	finds(t, table, turned(third, 0), []mend.Found{out})
	finds(t, table, turned(turned(third, 0), headLong), []mend.Found{in})
}

// P30.1, P30.5: a block that reaches into another one that begins behind it is found, and that one is not; without it that one is.
func TestScanOverlap(t *testing.T) {
	table := crc.Make()
	// The second block's head is known ahead of its payload, as that has its length alone in it.
	const rest = 20
	second := api.Head{Kind: api.Lossless, Index: 1, Length: 256, Step: 1, Size: 3 + 4 + rest}
	front, e := head.Put(table, second)
	if e != api.OK {
		t.Fatal(e)
	}
	first, one := sealed(t, table, 0, api.Head{Kind: api.Lossless, Length: 256, Step: 1}, append(front, 1, 2, 3))
	payload := slices.Concat(first[2*headLong:], bytes.Repeat([]byte{0xDE}, rest))
	whole, two := sealed(t, table, headLong, second, payload)
	b := slices.Concat(first[:headLong], whole)
	finds(t, table, b, []mend.Found{one})
	finds(t, table, turned(b, 5), []mend.Found{two})
	two.At = 0
	finds(t, table, whole, []mend.Found{two})
}

// piece is bytes that may be blocks, or look like such.
func (x *noise) piece(t *testing.T, table *crc.Table, deep int) []byte {
	t.Helper()
	payload := x.bytes(x.next(60))
	if deep > 0 && x.one(3) {
		payload = slices.Concat(payload[:len(payload)/2], x.piece(t, table, deep-1), payload[len(payload)/2:])
	}
	b, _ := sealed(t, table, 0, x.head(), payload)
	switch x.next(9) {
	case 0:
		return x.bytes(x.next(50))
	case 1:
		return b[:x.next(len(b))]
	case 2:
		return b[x.next(len(b)):]
	case 3:
		return turned(b, x.next(len(b)))
	case 4:
		return b[:headLong]
	case 5:
		return []byte{0xDE, 0x5C, byte(x.next(4))}[:1+x.next(3)]
	}
	return b
}

// P30.1: pieces of all kinds, one behind the other; by whatever table.
func TestScan(t *testing.T) {
	x := noise(1)
	few, noughts := &crc.Table{}, &crc.Table{}
	for i := range few {
		few[i] = uint32(x.next(1 << 31))
	}
	for round, table := range []*crc.Table{crc.Make(), few, noughts} {
		found := 0
		for range 2000 {
			var b []byte
			for range x.next(8) {
				b = append(b, x.piece(t, table, 2)...)
			}
			want, lost := scanned(table, b)
			finds(t, table, b, want)
			if n := mend.Lost(table, b); n != lost {
				t.Fatalf("%d lost, not %d", n, lost)
			}
			found += len(want)
			finds(t, nil, b, nil)
		}
		if found < 2000 {
			t.Errorf("table %d: %d found", round, found)
		}
	}
}

// P30.5: blocks that are whole are found, whatever stands between them.
func TestScanBetween(t *testing.T) {
	x, table := noise(2), crc.Make()
	for range 1000 {
		var b []byte
		var want []mend.Found
		for range x.next(8) {
			b = append(b, x.between(t, table)...)
			one, f := sealed(t, table, len(b), x.head(), x.bytes(x.next(60)))
			b, want = append(b, one...), append(want, f)
		}
		finds(t, table, append(b, x.between(t, table)...), want)
	}
}

// between is bytes that begin no block, though they may look like one.
func (x *noise) between(t *testing.T, table *crc.Table) []byte {
	t.Helper()
	b, _ := sealed(t, table, 0, x.head(), x.bytes(x.next(60)))
	switch x.next(5) {
	case 0:
		return turned(b, x.next(len(b)))
	case 1:
		// A head that says that there is far more than there is.
		h := x.head()
		h.Size = 1 << 24
		b, _ = head.Put(table, h)
		return b
	case 2:
		// One that says that what is behind it belongs to it, which its sum denies.
		h := x.head()
		h.Size = x.next(100)
		b, _ = head.Put(table, h)
		return b
	case 3:
		return []byte{0xDE, 0x5C, 0xDE}[:x.next(4)]
	}
	return x.bytes(x.next(40))
}

// P30.6: of a file of which nothing is lost all blocks are found, in order, without gaps; with a byte changed all others are.
func TestFile(t *testing.T) {
	x, table := noise(3), crc.Make()
	for kind := api.Base; kind <= api.Lossless; kind++ {
		i := api.Info{Kind: kind, Format: api.Format{Channels: 2, Bits: 8, Rate: 8000}, Block: 256}
		var blocks [][]byte
		for index := range 5 {
			b, _ := sealed(t, table, 0, api.Head{Kind: kind, Index: index, Length: 256, Step: 1}, x.bytes(x.next(40)))
			blocks = append(blocks, b)
		}
		b, e := file.Build(table, i, []api.Tag{{Key: "Title", Value: "\u079c\\DSC1"}}, blocks, 7)
		f, e2 := file.Parse(table, b)
		if e != api.OK || e2 != api.OK {
			t.Fatal(e, e2)
		}
		var want []mend.Found
		for _, x := range f.Blocks {
			want = append(want, mend.Found{At: x.At, Head: x.Head, Payload: x.Payload, Sum: x.Sum})
		}
		finds(t, table, b, want)
		if l := mend.Order(mend.Scan(table, b), kind); !slices.EqualFunc(l, want, isSame) {
			t.Fatalf("%+v, not %+v", l, want)
		}
		if l := mend.Gaps(want, len(want)); len(l) > 0 {
			t.Fatalf("gaps %v", l)
		}
		for at := range b {
			var left []mend.Found
			for _, f := range want {
				if at < f.At || at >= f.At+frame+len(f.Payload) {
					left = append(left, f)
				}
			}
			finds(t, table, turned(b, at), left)
		}
	}
}

// ordered are the blocks of a kind, in order, of several of one Index the first one, as the words say it.
func ordered(l []mend.Found, kind int) []mend.Found {
	var left, want []mend.Found
	for _, f := range l {
		if f.Head.Kind == kind {
			left = append(left, f)
		}
	}
	for len(left) > 0 {
		first := 0
		for i, f := range left {
			g := left[first]
			if f.Head.Index < g.Head.Index || f.Head.Index == g.Head.Index && f.At < g.At {
				first = i
			}
		}
		want = append(want, left[first])
		index := left[first].Head.Index
		left = slices.DeleteFunc(left, func(f mend.Found) bool { return f.Head.Index == index })
	}
	return want
}

// orders fails, if the blocks of a kind are others than the words say, or if those that were handed in have changed.
func orders(t *testing.T, l []mend.Found, kind int) []mend.Found {
	t.Helper()
	was, want := copied(l), ordered(l, kind)
	got := mend.Order(l, kind)
	if !slices.EqualFunc(got, want, isSame) {
		t.Fatalf("of %+v, kind %d: %+v, not %+v", l, kind, got, want)
	}
	if !slices.EqualFunc(l, was, isSame) {
		t.Fatal("what was handed in has changed")
	}
	return got
}

// named are blocks of which each is told by its payload; of each the kind, the index, and where it begins.
func named(l ...[3]int) []mend.Found {
	var blocks []mend.Found
	for i, x := range l {
		blocks = append(blocks, mend.Found{At: x[2], Head: api.Head{Kind: x[0], Index: x[1]}, Payload: []byte{byte(i)}})
	}
	return blocks
}

// P30.2: by hand.
func TestOrderByHand(t *testing.T) {
	for _, x := range []struct {
		l    []mend.Found
		kind int
		want string // the payloads
	}{
		{nil, 1, ""},
		{named([3]int{1, 0, 0}), 1, "\x00"},
		{named([3]int{1, 0, 0}), 2, ""},
		{named([3]int{1, 2, 0}, [3]int{1, 1, 9}, [3]int{1, 0, 90}), 1, "\x02\x01\x00"},
		{named([3]int{2, 0, 0}, [3]int{1, 1, 9}, [3]int{1, 0, 90}, [3]int{3, 0, 1}), 1, "\x02\x01"},
		{named([3]int{1, 5, 7}, [3]int{1, 5, 3}, [3]int{1, 4, 9}, [3]int{1, 5, 5}), 1, "\x02\x01"},
		{named([3]int{3, 5, 7}, [3]int{3, 5, 7}), 3, "\x00"},
		{named([3]int{0, -1, 7}, [3]int{0, -2, 8}), 0, "\x01\x00"},
		{named([3]int{9, math.MaxInt, 0}, [3]int{9, math.MinInt, 0}, [3]int{9, math.MinInt, -1}), 9, "\x02\x00"},
		{named([3]int{1, 0, math.MaxInt}, [3]int{1, 0, math.MinInt}), 1, "\x01"},
	} {
		var got []byte
		for _, f := range orders(t, x.l, x.kind) {
			got = append(got, f.Payload...)
		}
		if string(got) != x.want {
			t.Errorf("%+v, kind %d: %v, not %v", x.l, x.kind, got, []byte(x.want))
		}
	}
}

// P30.2: blocks of few kinds, indexes and places, so that many are alike.
func TestOrder(t *testing.T) {
	x := noise(4)
	for range 3000 {
		l := make([][3]int, x.next(30))
		for i := range l {
			l[i] = [3]int{x.next(5), x.next(8) - 1, x.next(10) - 1}
		}
		blocks := named(l...)
		for kind := -1; kind <= 5; kind++ {
			orders(t, blocks, kind)
		}
	}
	// Very many, the last one first.
	var l [][3]int
	for i := range 100000 {
		l = append(l, [3]int{1, (100000 - i) / 2, i})
	}
	got := mend.Order(named(l...), 1)
	for i, f := range got {
		// Of both with an Index the one that was told first begins first; 50000 and 0 have one alone.
		if at := max(100000-2*i-1, 0); f.Head.Index != i || f.At != at {
			t.Fatalf("%d: %+v", i, f)
		}
	}
}

// P30.2: what is answered shares nothing with what was handed in.
func TestOrderIsNew(t *testing.T) {
	l := named([3]int{1, 0, 0}, [3]int{1, 1, 9})
	got := mend.Order(l, 1)
	want := copied(got)
	for i := range l {
		clear(l[i].Payload)
		_ = append(l[i].Payload[:0], 7)
		l[i].At = 5
	}
	if !slices.EqualFunc(got, want, isSame) {
		t.Fatalf("%+v, not %+v", got, want)
	}
}

// P30.3: the numbers that no block has, of whatever kind.
func TestGaps(t *testing.T) {
	l := named([3]int{1, 1, 0}, [3]int{2, 3, 0}, [3]int{3, 4, 0}, [3]int{0, 0, 0}, [3]int{1, -1, 0}, [3]int{1, 1, 5}, [3]int{1, mostGaps - 1, 0}, [3]int{1, mostGaps, 0}, [3]int{1, math.MaxInt, 0}, [3]int{1, math.MinInt, 0})
	was := copied(l)
	for _, n := range []int{-1, 0, 1, 2, 3, 4, 5, 6, 7, 100, mostGaps - 1, mostGaps, mostGaps + 1, 1 << 20, 1 << 40, math.MaxInt, math.MinInt} {
		for _, blocks := range [][]mend.Found{nil, l[:1], l[:3], l} {
			var want []int
			for i := 0; i < min(n, 65536); i++ {
				if !slices.ContainsFunc(blocks, func(f mend.Found) bool { return f.Head.Index == i }) {
					want = append(want, i)
				}
			}
			if got := mend.Gaps(blocks, n); !slices.Equal(got, want) {
				t.Errorf("%d of %d blocks: %d gaps, not %d", n, len(blocks), len(got), len(want))
			}
		}
	}
	if got := mend.Gaps(l, 7); !slices.Equal(got, []int{2, 5, 6}) {
		t.Errorf("gaps %v", got)
	}
	if !slices.EqualFunc(l, was, isSame) {
		t.Error("what was handed in has changed")
	}
}

// patched is what Patch answers, as the words say it.
func patched(i api.Info, l []mend.Found, count int) (api.Sound, []int, api.Errno) {
	switch {
	case !info.Right(i):
		return api.Sound{}, nil, api.ErrHead
	case i.Kind == api.Correction:
		return api.Sound{}, nil, api.ErrKind
	case count < 0 || count > mostCount:
		return api.Sound{}, nil, api.ErrCount
	}
	s := api.Sound{Format: i.Format, Samples: make([][]int, i.Format.Channels)}
	var lost []int
	mine := ordered(l, i.Kind)
	for index, left := 0, count; left > 0; index, left = index+1, left-i.Block {
		n := min(left, i.Block)
		part, ok := api.Sound{}, false
		for _, f := range mine {
			if f.Head.Index == index && f.Head.Length == n {
				part, ok = playedOf(i, f, n)
			}
		}
		if !ok {
			lost = append(lost, index)
			part.Samples = make([][]int, i.Format.Channels)
			for c := range part.Samples {
				part.Samples[c] = make([]int, n)
			}
		}
		for c := range s.Samples {
			s.Samples[c] = append(s.Samples[c], part.Samples[c]...)
		}
	}
	return s, lost, api.OK
}

// playedOf is what a block of n samples plays as, and whether it can be played.
func playedOf(i api.Info, f mend.Found, n int) (api.Sound, bool) {
	s, e := api.Sound{}, api.OK
	switch i.Kind {
	case api.Base:
		s, e = block.PlayBase(i.Format, f.Payload, n, f.Head.Step, i.Shape)
	case api.Lossless:
		s, e = block.PlayWhole(i.Format, f.Payload, n)
	}
	return s, e == api.OK
}

// patches fails, if other sound is patched than the words say, or if the blocks have changed; and tells what was lost.
func patches(t *testing.T, i api.Info, l []mend.Found, count int) []int {
	t.Helper()
	was := copied(l)
	want, wl, we := patched(i, l, count)
	s, lost, e := mend.Patch(i, l, count)
	if e != we || !slices.Equal(lost, wl) || !isSameSound(s, want) {
		t.Fatalf("%+v, %d blocks, %d: lost %v, error %d, not %v, error %d", i, len(l), count, lost, e, wl, we)
	}
	if !slices.EqualFunc(l, was, isSame) {
		t.Fatal("what was handed in has changed")
	}
	return lost
}

// refuses fails, if anything is patched, or refused by another error.
func refuses(t *testing.T, i api.Info, l []mend.Found, count int, want api.Errno) {
	t.Helper()
	s, lost, e := mend.Patch(i, l, count)
	if e != want || len(lost) > 0 || !isSameSound(s, api.Sound{}) {
		t.Errorf("%+v, %d: %+v, lost %v, error %d, not %d", i, count, s, lost, e, want)
	}
}

// coded are the blocks of sound, of a base or without loss, and the sound that they play as.
func (x *noise) coded(t *testing.T, table *crc.Table, i api.Info, count int) ([]mend.Found, api.Sound) {
	t.Helper()
	var l []mend.Found
	all := api.Sound{Format: i.Format, Samples: make([][]int, i.Format.Channels)}
	for index := 0; index*i.Block < count; index++ {
		s := x.sound(i.Format, min(i.Block, count-index*i.Block))
		h := api.Head{Kind: i.Kind, Index: index, Length: len(s.Samples[0]), Step: 1}
		payload, heard := []byte(nil), s
		e := api.OK
		if i.Kind == api.Base {
			h.Step = 1 << x.next(5)
			cs, ce := block.Choices(s, order, window.Flat)
			if ce != api.OK {
				t.Fatal(ce)
			}
			payload, heard, e = block.Base(s, cs, h.Step, i.Shape)
		} else {
			payload, e = block.Whole(s, order, window.Flat)
		}
		if e != api.OK {
			t.Fatal(e)
		}
		_, f := sealed(t, table, 1000*index, h, payload)
		l = append(l, f)
		for c := range all.Samples {
			all.Samples[c] = append(all.Samples[c], heard.Samples[c]...)
		}
	}
	return l, all
}

// info is right info of a base, or of what was made without loss, of short blocks.
func (x *noise) info() api.Info {
	i := api.Info{
		Kind:   []int{api.Base, api.Lossless}[x.next(2)],
		Format: api.Format{Channels: 1 + x.next(3), Bits: 8 + x.next(17), Rate: 8000},
		Block:  256 + x.next(40),
	}
	if i.Kind == api.Base {
		i.Shape = x.next(4)
	}
	return i
}

// spoil does to one of these blocks something by which it may be lost.
func (x *noise) spoil(l []mend.Found) []mend.Found {
	if len(l) == 0 {
		return l
	}
	at := x.next(len(l))
	f := &l[at]
	switch x.next(11) {
	case 0:
		return slices.Delete(l, at, at+1)
	case 1:
		f.Head.Kind = x.next(5)
	case 2:
		f.Head.Index += x.next(5) - 2
	case 3:
		f.Head.Length += x.next(3) - 1
	case 4:
		f.Head.Step = []int{0, -1, 1, 3, 1 << 8, 1 << 31, math.MaxInt, math.MinInt}[x.next(8)]
	case 5:
		f.Payload = f.Payload[:x.next(len(f.Payload)+1)]
	case 6:
		f.Payload = append(slices.Clone(f.Payload), x.bytes(x.next(3))...)
	case 7:
		f.Payload = x.bytes(x.next(50))
	case 8:
		g := *f
		g.At += x.next(3) - 1
		g.Payload = l[x.next(len(l))].Payload
		return slices.Insert(l, x.next(len(l)+1), g)
	case 9:
		f.Head.Index = []int{math.MinInt, math.MaxInt, -1, 1 << 40}[x.next(4)]
	case 10:
		f.Head.Length = []int{math.MinInt, math.MaxInt, -1, 0, 65536, 65537}[x.next(6)]
	}
	return l
}

// P30.4: sound of which nothing is lost is as it was played; of what is lost as much is silence as the words say.
func TestPatch(t *testing.T) {
	x, table := noise(5), crc.Make()
	all, some := 0, 0
	for range 400 {
		i := x.info()
		count := x.next(6 * i.Block)
		if x.one(4) {
			count -= count % i.Block
		}
		l, want := x.coded(t, table, i, count)
		s, lost, e := mend.Patch(i, l, count)
		if e != api.OK || len(lost) > 0 || !isSameSound(s, want) {
			t.Fatalf("%+v, %d: lost %v, error %d", i, count, lost, e)
		}
		for range 8 {
			l := copied(l)
			for range 1 + x.next(3) {
				l = x.spoil(l)
			}
			if len(patches(t, i, l, count)) == 0 {
				all++
			} else {
				some++
			}
		}
		// Of fewer samples, or more, the last blocks are too long, too short, or not there.
		for _, n := range []int{0, 1, count - 1, count + 1, count + i.Block, count / 2} {
			patches(t, i, l, max(n, 0))
		}
	}
	if all < 100 || some < 100 {
		t.Errorf("%d whole, %d not", all, some)
	}
}

// P30.4: three blocks of one sample's change, by hand.
func TestPatchByHand(t *testing.T) {
	i := api.Info{Kind: api.Lossless, Format: api.Format{Channels: 1, Bits: 8, Rate: 8000}, Block: 256}
	// A code of one sample that stands for all: 00, eight bits, and bits 0 up to the byte's end.
	still := func(index, length, at int, sample byte) mend.Found {
		return mend.Found{At: at, Head: api.Head{Kind: api.Lossless, Index: index, Length: length, Step: 1}, Payload: []byte{sample >> 2, sample << 6}}
	}
	flat := func(runs ...[2]int) []int {
		var l []int
		for _, r := range runs {
			l = append(l, slices.Repeat([]int{r[1]}, r[0])...)
		}
		return l
	}
	base := still(1, 256, 0, 9)
	base.Head.Kind = api.Base
	bad := still(1, 256, 5, 9)
	bad.Payload[1] |= 1
	for _, x := range []struct {
		l    []mend.Found
		want []int
		lost []int
	}{
		{nil, flat([2]int{600, 0}), []int{0, 1, 2}},
		{[]mend.Found{still(2, 88, 9, 3), still(0, 256, 7, 1), still(1, 256, 8, 2)}, flat([2]int{256, 1}, [2]int{256, 2}, [2]int{88, 3}), nil},
		{[]mend.Found{still(1, 256, 8, 2)}, flat([2]int{256, 0}, [2]int{256, 2}, [2]int{88, 0}), []int{0, 2}},
		{[]mend.Found{still(1, 255, 8, 2), still(2, 256, 8, 2), still(3, 256, 8, 2)}, flat([2]int{600, 0}), []int{0, 1, 2}},
		{[]mend.Found{base, still(1, 256, 8, 2)}, flat([2]int{256, 0}, [2]int{256, 2}, [2]int{88, 0}), []int{0, 2}},
		// The first one counts, also if it cannot be played, and another one could.
		{[]mend.Found{still(1, 256, 8, 2), still(1, 256, 6, 5)}, flat([2]int{256, 0}, [2]int{256, 5}, [2]int{88, 0}), []int{0, 2}},
		{[]mend.Found{still(1, 256, 8, 2), bad}, flat([2]int{600, 0}), []int{0, 1, 2}},
		{[]mend.Found{still(1, 256, 8, 2), still(1, 200, 6, 5)}, flat([2]int{600, 0}), []int{0, 1, 2}},
	} {
		s, lost, e := mend.Patch(i, x.l, 600)
		if e != api.OK || !slices.Equal(lost, x.lost) || !isSameSound(s, api.Sound{Format: i.Format, Samples: [][]int{x.want}}) {
			t.Errorf("%+v: lost %v, error %d, not %v", x.l, lost, e, x.lost)
		}
	}
}

// P30.4: of several errors the first one, and what there may be at the most.
func TestPatchErrors(t *testing.T) {
	good := api.Info{Kind: api.Base, Format: api.Format{Channels: 2, Bits: 16, Rate: 8000}, Block: 65536, Shape: 3}
	wrong, other := good, good
	wrong.Kind, wrong.Block = api.Correction, 255
	other.Kind = api.Correction
	l := named([3]int{1, 0, 0}, [3]int{1, 3, 0})
	for _, count := range []int{-1, mostCount + 1, math.MaxInt, math.MinInt, 7} {
		refuses(t, api.Info{}, l, count, api.ErrHead)
		refuses(t, wrong, l, count, api.ErrHead)
		refuses(t, other, l, count, api.ErrKind)
		if count != 7 {
			refuses(t, good, l, count, api.ErrCount)
		}
	}
	for _, kind := range []int{api.Base, api.Lossless} {
		i := good
		i.Kind = kind
		if kind == api.Lossless {
			i.Shape = 0
		}
		for _, count := range []int{0, 1, mostCount - 1, mostCount} {
			patches(t, i, l, count)
		}
	}
	s, lost, e := mend.Patch(good, l, 0)
	if e != api.OK || len(lost) > 0 || s.Format != good.Format || len(s.Samples) != 2 || len(s.Samples[0])+len(s.Samples[1]) > 0 {
		t.Errorf("no samples: %+v, lost %v, error %d", s, lost, e)
	}
}

// P30.4: as many blocks as there may be.
func TestPatchMost(t *testing.T) {
	i := api.Info{Kind: api.Lossless, Format: api.Format{Channels: 1, Bits: 8, Rate: 8000}, Block: 256}
	var l []mend.Found
	want := make([]int, mostCount)
	for index := range 4096 {
		if index%3 == 0 {
			continue
		}
		// One sample stands for all, 1.
		l = append(l, mend.Found{Head: api.Head{Kind: i.Kind, Index: index, Length: 256, Step: 1}, Payload: []byte{0, 64}})
		for at := range 256 {
			want[index*256+at] = 1
		}
	}
	s, lost, e := mend.Patch(i, l, mostCount)
	if e != api.OK || len(lost) != 1366 || lost[1365] != 4095 || !slices.Equal(s.Samples[0], want) {
		t.Fatalf("%d lost, error %d", len(lost), e)
	}
}

// P30.4, P30.6: a file's sound with some bytes turned: what is found plays, and is lost where they were turned.
func TestPatchFile(t *testing.T) {
	x, table := noise(6), crc.Make()
	for range 60 {
		i := x.info()
		count := 1 + x.next(6*i.Block)
		l, want := x.coded(t, table, i, count)
		var blocks [][]byte
		for _, f := range l {
			b, _ := sealed(t, table, 0, f.Head, f.Payload)
			blocks = append(blocks, b)
		}
		b, e := file.Build(table, i, nil, blocks, 0)
		if e != api.OK {
			t.Fatal(e)
		}
		whole, _ := file.Parse(table, b)
		var gone []int
		for range x.next(4) {
			at := x.next(len(b))
			b[at] ^= 1
			for k, f := range whole.Blocks {
				if at >= f.At && at < f.At+head.Long(f.Head) && !slices.Contains(gone, k) {
					gone = append(gone, k)
				}
			}
		}
		slices.Sort(gone)
		for _, k := range gone {
			for c := range want.Samples {
				clear(want.Samples[c][k*i.Block : min((k+1)*i.Block, count)])
			}
		}
		found := mend.Scan(table, b)
		s, lost, e := mend.Patch(i, found, count)
		if e != api.OK || !slices.Equal(lost, gone) || !isSameSound(s, want) {
			t.Fatalf("%+v: lost %v, error %d, not %v", i, lost, e, gone)
		}
		if l := mend.Gaps(found, len(blocks)); !slices.Equal(l, gone) {
			t.Fatalf("gaps %v, not %v", l, gone)
		}
	}
}
