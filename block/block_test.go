package block_test

import (
	"bytes"
	"math"
	"slices"
	"strconv"
	"strings"
	"testing"

	"descant/api"
	"descant/base"
	"descant/bitio"
	"descant/block"
	"descant/corr"
	"descant/joint"
	"descant/loop"
	"descant/search"
	"descant/sub"
	"descant/window"
)

const (
	told      = -1      // Fixed of a choice that is told
	longest   = 1 << 16 // samples of a channel, at the most
	mostBound = 1 << 31 // the greatest bound
)

// noise is numbers that look like chance, and are the same ones at each run.
type noise uint64

func (x *noise) next(n int) int {
	*x = *x*6364136223846793005 + 1442695040888963407
	return int(*x >> 33 % noise(n))
}

// number is a number of so many bits, up to 64.
func (x *noise) number(bits int) int {
	return (x.next(1<<31)<<33 ^ x.next(1<<31)<<13 ^ x.next(1<<31)) >> (64 - bits)
}

// list is n numbers of so many bits.
func (x *noise) list(n, bits int) []int {
	l := make([]int, n)
	for i := range l {
		l[i] = x.number(bits)
	}
	return l
}

// bytes is n bytes.
func (x *noise) bytes(n int) []byte {
	b := make([]byte, n)
	for i := range b {
		b[i] = byte(x.next(256))
	}
	return b
}

// swing is n numbers of so many bits, each near to what the two ahead of it say.
func (x *noise) swing(n, bits int) []int {
	lo, hi := ends(bits)
	l := x.list(n, bits-5)
	for i := 2; i < n; i++ {
		l[i] = between(l[i]+(14*l[i-1]-7*l[i-2])/8, lo, hi)
	}
	return l
}

// samples is n numbers of so many bits, of one of the kinds that there are.
func (x *noise) samples(n, bits int) []int {
	lo, hi := ends(bits)
	switch x.next(6) {
	case 0:
		return x.list(n, bits)
	case 1:
		return slices.Repeat(x.list(1, bits), n)
	case 2:
		l := slices.Repeat(x.list(1, bits), n)
		l[x.next(n)] = x.number(bits)
		return l
	case 3:
		at, slope := x.number(bits), x.next(9)-4
		return curve(n, func(i int) int { return between(at+i*slope, lo, hi) })
	}
	return x.swing(n, bits)
}

// near is a channel that is like another one, more or less.
func (x *noise) near(l []int, bits int) []int {
	lo, hi := ends(bits)
	less, more := 1<<x.next(3), x.list(len(l), 1+x.next(bits-3))
	return curve(len(l), func(i int) int { return between(l[i]/less+more[i], lo, hi) })
}

// format is a right one.
func (x *noise) format() api.Format {
	return api.Format{
		Channels: 1 + x.next(api.MaxChannels),
		Bits:     api.MinBits + x.next(api.MaxBits-api.MinBits+1),
		Rate:     1 + x.next(api.MaxRate),
	}
}

// sound is n frames, of channels that are like one another, or are not.
func (x *noise) sound(f api.Format, n int) api.Sound {
	s := api.Sound{Format: f}
	for c := range f.Channels {
		l := x.samples(n, f.Bits)
		if c > 0 && x.next(3) > 0 {
			l = x.near(s.Samples[c-1], f.Bits)
			if x.next(2) == 0 {
				l, s.Samples[c-1] = s.Samples[c-1], l
			}
		}
		s.Samples = append(s.Samples, l)
	}
	return s
}

// step is one of samples of so many bits.
func (x *noise) step(bits int) int {
	if x.next(3) == 0 {
		return 1 << x.next(bits)
	}
	return 1 + x.next(1<<x.next(bits))
}

// choice is one that needs no telling, or one with a few coefficients, or with many.
func (x *noise) choice() search.Choice {
	if x.next(2) == 0 {
		return fixed(x.next(5))
	}
	c := of(x.next(api.MaxShift+1), x.list(x.next(api.MaxOrder+1), 1+x.next(16))...)
	for i, w := range c.Predictor.Coefs {
		c.Predictor.Coefs[i] = max(w, -api.MaxCoef)
	}
	return c
}

// choices are n of them.
func (x *noise) choices(n int) []search.Choice {
	l := make([]search.Choice, n)
	for i := range l {
		l[i] = x.choice()
	}
	return l
}

// curve is n numbers, as a rule says.
func curve(n int, rule func(i int) int) []int {
	l := make([]int, n)
	for i := range l {
		l[i] = rule(i)
	}
	return l
}

// ends are the least and the greatest number of so many bits.
func ends(bits int) (int, int) {
	return -1 << (bits - 1), 1<<(bits-1) - 1
}

// between is a number, or the end that it is beyond.
func between(x, lo, hi int) int {
	return min(max(x, lo), hi)
}

// fits tells whether a number is one of so many bits.
func fits(x, bits int) bool {
	lo, hi := ends(bits)
	return lo <= x && x <= hi
}

// fixed is a choice that needs no telling.
func fixed(order int) search.Choice {
	coefs := [][]int{{}, {1}, {2, -1}, {3, -3, 1}, {4, -6, 4, -1}}
	return search.Choice{Fixed: order, Predictor: api.Predictor{Coefs: coefs[order]}}
}

// of is a choice that is told.
func of(shift int, coefs ...int) search.Choice {
	return search.Choice{Fixed: told, Predictor: api.Predictor{Coefs: coefs, Shift: shift}}
}

// kept is a copy of sound, and of all its lists.
func kept(s api.Sound) api.Sound {
	k := api.Sound{Format: s.Format}
	for _, l := range s.Samples {
		k.Samples = append(k.Samples, slices.Clone(l))
	}
	return k
}

// same tells whether two sounds are the same.
func same(a, b api.Sound) bool {
	return a.Format == b.Format && slices.EqualFunc(a.Samples, b.Samples, slices.Equal[[]int])
}

// nothing tells whether sound is the zero value.
func nothing(s api.Sound) bool {
	return s.Format == (api.Format{}) && len(s.Samples) == 0
}

// alike tells whether two choices are the same.
func alike(a, b search.Choice) bool {
	return a.Fixed == b.Fixed && a.Predictor.Shift == b.Predictor.Shift && slices.Equal(a.Predictor.Coefs, b.Predictor.Coefs)
}

// digits are the lowest n bits of x, as a text.
func digits(x, n int) string {
	s := strings.Repeat("0", 64) + strconv.FormatUint(uint64(x)&(1<<n-1), 2)
	return s[len(s)-n:]
}

// packed is a text of bits as bytes, with bits 0 behind; spaces are left out.
func packed(s string) []byte {
	s = strings.ReplaceAll(s, " ", "")
	s += strings.Repeat("0", (8-len(s)%8)%8)
	b := make([]byte, 0, len(s)/8)
	for ; s != ""; s = s[8:] {
		v, _ := strconv.ParseUint(s[:8], 2, 8)
		b = append(b, byte(v))
	}
	return b
}

// text is the bits of a writer, as a text.
func text(w *bitio.Writer) string {
	var s strings.Builder
	for _, b := range w.Bytes() {
		s.WriteString(digits(int(b), 8))
	}
	return s.String()[:w.Len()]
}

// baseCode, subCode and corrCode are the codes of a channel, by the layers below; of the first one also what it sounds like.
func baseCode(l []int, c search.Choice, set base.Set) (string, []int) {
	w := &bitio.Writer{}
	plan, _ := base.Put(w, l, c, set)
	return text(w), plan.Samples
}

func subCode(l []int, order, kind, bits int) string {
	w := &bitio.Writer{}
	sub.Put(w, l, sub.Set{Order: order, Window: kind, Bits: bits})
	return text(w)
}

func corrCode(l []int, bound int) string {
	w := &bitio.Writer{}
	corr.Put(w, l, bound)
	return text(w)
}

// baseOf is a base payload, bit by bit, and what it sounds like.
func baseOf(s api.Sound, cs []search.Choice, step, shape int) (string, api.Sound) {
	all, heard := "", api.Sound{Format: s.Format}
	for c, l := range s.Samples {
		code, like := baseCode(l, cs[c], base.Set{Step: step, Shape: shape, Bits: s.Format.Bits})
		all += code
		heard.Samples = append(heard.Samples, like)
	}
	return all, heard
}

// corrOf is a correction payload, bit by bit.
func corrOf(s, coarse api.Sound, bound int) string {
	all := ""
	for c, l := range s.Samples {
		all += corrCode(curve(len(l), func(i int) int { return l[i] - coarse.Samples[c][i] }), bound)
	}
	return all
}

// turnedOf is what a mode makes of two channels, and how many bits both have then, word by word.
func turnedOf(mode int, a, b []int, bits int) (c, d []int, first, second int) {
	difference := curve(len(a), func(i int) int { return a[i] - b[i] })
	middle := curve(len(a), func(i int) int { return (a[i] + b[i]) >> 1 })
	switch mode {
	case 1:
		return a, difference, bits, bits + 1
	case 2:
		return difference, b, bits + 1, bits
	case 3:
		return middle, difference, bits, bits + 1
	}
	return a, b, bits, bits
}

// pairOf is the code of two channels by a mode, bit by bit.
func pairOf(mode int, a, b []int, order, kind, bits int) string {
	c, d, first, second := turnedOf(mode, a, b, bits)
	return digits(mode, 2) + subCode(c, order, kind, first) + subCode(d, order, kind, second)
}

// wholeOf is a whole payload, bit by bit, by modes, or by the best ones, if there are none.
func wholeOf(s api.Sound, order, kind int, modes ...int) string {
	all, bits := "", s.Format.Bits
	for c := 0; c < len(s.Samples); c += 2 {
		if c+1 == len(s.Samples) {
			return all + subCode(s.Samples[c], order, kind, bits)
		}
		a, b := s.Samples[c], s.Samples[c+1]
		mode := joint.Choose(a, b)
		if len(modes) > 0 {
			mode = modes[c/2]
		}
		all += pairOf(mode, a, b, order, kind, bits)
	}
	return all
}

// endOf is what a payload's end shows, behind the last channel.
func endOf(r *bitio.Reader, s api.Sound) (api.Sound, api.Errno) {
	rest, _ := r.Get(r.Left() % 8)
	switch {
	case rest != 0:
		return api.Sound{}, api.ErrBits
	case r.Left() > 0:
		return api.Sound{}, api.ErrSize
	}
	return s, api.OK
}

// playedBase is what a base payload plays as, channel by channel.
func playedBase(f api.Format, b []byte, n, step, shape int) (api.Sound, api.Errno) {
	r, s := bitio.Read(b), api.Sound{Format: f}
	for range f.Channels {
		l, e := base.Get(r, n, base.Set{Step: step, Shape: shape, Bits: f.Bits})
		if e != api.OK {
			return api.Sound{}, e
		}
		s.Samples = append(s.Samples, l)
	}
	return endOf(r, s)
}

// playedCorr is what a correction payload plays as, channel by channel.
func playedCorr(coarse api.Sound, b []byte, bound int) (api.Sound, api.Errno) {
	r, s := bitio.Read(b), api.Sound{Format: coarse.Format}
	for _, ys := range coarse.Samples {
		l, e := corr.Get(r, len(ys), bound)
		if e != api.OK {
			return api.Sound{}, e
		}
		for i, y := range ys {
			l[i] += y
			if !fits(l[i], coarse.Format.Bits) {
				return api.Sound{}, api.ErrSample
			}
		}
		s.Samples = append(s.Samples, l)
	}
	return endOf(r, s)
}

// playedPair is two channels of a whole payload.
func playedPair(r *bitio.Reader, n, bits int) ([][]int, api.Errno) {
	mode, e := r.Get(2)
	if e != api.OK {
		return nil, e
	}
	_, _, first, second := turnedOf(int(mode), nil, nil, bits)
	c, _, e := sub.Get(r, n, first)
	if e != api.OK {
		return nil, e
	}
	d, _, e := sub.Get(r, n, second)
	if e != api.OK {
		return nil, e
	}
	a, b, e := joint.Back(int(mode), c, d, bits)
	return [][]int{a, b}, e
}

// playedWhole is what a whole payload plays as, pair by pair.
func playedWhole(f api.Format, b []byte, n int) (api.Sound, api.Errno) {
	r, s := bitio.Read(b), api.Sound{Format: f}
	for range f.Channels / 2 {
		both, e := playedPair(r, n, f.Bits)
		if e != api.OK {
			return api.Sound{}, e
		}
		s.Samples = append(s.Samples, both...)
	}
	if f.Channels%2 == 1 {
		l, _, e := sub.Get(r, n, f.Bits)
		if e != api.OK {
			return api.Sound{}, e
		}
		s.Samples = append(s.Samples, l)
	}
	return endOf(r, s)
}

// player plays a payload as sound of as many frames as there must be.
type player func(b []byte) (api.Sound, api.Errno)

// baser, mender and wholer play a payload by the calls, and fail, if what is handed in changes.
func baser(t *testing.T, f api.Format, n, step, shape int) player {
	return func(b []byte) (api.Sound, api.Errno) {
		t.Helper()
		was := bytes.Clone(b)
		s, e := block.PlayBase(f, b, n, step, shape)
		unchanged(t, b, was)
		return s, e
	}
}

func mender(t *testing.T, coarse api.Sound, bound int) player {
	return func(b []byte) (api.Sound, api.Errno) {
		t.Helper()
		was, sound := bytes.Clone(b), kept(coarse)
		s, e := block.PlayCorr(coarse, b, bound)
		unchanged(t, b, was)
		if !same(coarse, sound) {
			t.Fatal("what was handed in has changed")
		}
		return s, e
	}
}

func wholer(t *testing.T, f api.Format, n int) player {
	return func(b []byte) (api.Sound, api.Errno) {
		t.Helper()
		was := bytes.Clone(b)
		s, e := block.PlayWhole(f, b, n)
		unchanged(t, b, was)
		return s, e
	}
}

// unchanged fails, if bytes have changed.
func unchanged(t *testing.T, b, was []byte) {
	t.Helper()
	if !bytes.Equal(b, was) {
		t.Fatal("what was handed in has changed")
	}
}

// plays fails, if bytes play as something else, or if what is played has a part of something else in it.
func plays(t *testing.T, play player, b []byte, want api.Sound) {
	t.Helper()
	s, e := play(b)
	if e != api.OK || !same(s, want) {
		t.Fatalf("%d bytes of %v: %v, error %d, not %v", len(b), want.Format, s, e, want)
	}
	ownLists(t, s)
	// What is done to the answer does not reach the next one, nor what was handed in.
	if again, e := play(b); e != api.OK || !same(again, want) {
		t.Fatalf("%d bytes of %v: again %v, error %d", len(b), want.Format, again, e)
	}
}

// ownLists fails, if lists of one answer share anything; they are all changed.
func ownLists(t *testing.T, s api.Sound) {
	t.Helper()
	for c, l := range s.Samples {
		others := kept(s)
		for i := range l {
			l[i] ^= 1 << 40
		}
		_ = append(l, 1<<41)
		for o, was := range others.Samples {
			if o != c && !slices.Equal(s.Samples[o], was) {
				t.Fatalf("the lists %d and %d share something", c, o)
			}
		}
	}
}

// refuses fails, if bytes play as something, or there is another error.
func refuses(t *testing.T, play player, b []byte, want api.Errno) {
	t.Helper()
	if s, e := play(b); e != want || !nothing(s) {
		t.Fatalf("%d bytes %x: %v, error %d, not %d", len(b), b[:min(len(b), 40)], s, e, want)
	}
}

// likewise fails, if bytes play as something else than a model says.
func likewise(t *testing.T, play, model player, b []byte) api.Errno {
	t.Helper()
	s, e := model(b)
	if e != api.OK {
		refuses(t, play, b, e)
		return e
	}
	plays(t, play, b, s)
	return e
}

// ended fails, if a payload of so many bits plays also with bits or bytes missing, or more, or with bits 1 behind.
func ended(t *testing.T, play player, b []byte, bits int) {
	t.Helper()
	for i := range b {
		refuses(t, play, b[:i], api.ErrEnd)
	}
	for i := bits; i < 8*len(b); i++ {
		other := bytes.Clone(b)
		other[len(b)-1] |= 0x80 >> (i % 8)
		refuses(t, play, other, api.ErrBits)
		refuses(t, play, append(other, 0), api.ErrBits)
	}
	for _, more := range []string{"\x00", "\xff", "\x00\x00\x00", string(b)} {
		refuses(t, play, append(bytes.Clone(b), more...), api.ErrSize)
	}
}

// makesBase fails, if another base payload is made, or it does not play as it must.
func makesBase(t *testing.T, s api.Sound, cs []search.Choice, step, shape int, code string, heard api.Sound) {
	t.Helper()
	was, choices := kept(s), keptChoices(cs)
	b, like, e := block.Base(s, cs, step, shape)
	if e != api.OK || !bytes.Equal(b, packed(code)) || !same(like, heard) {
		t.Fatalf("%v, step %d, shape %d: %x, %v, error %d, not %x, %v", s, step, shape, b, like, e, packed(code), heard)
	}
	ownLists(t, like)
	if !same(s, was) || !slices.EqualFunc(cs, choices, alike) {
		t.Fatal("what was handed in has changed")
	}
	plays(t, baser(t, s.Format, len(s.Samples[0]), step, shape), b, heard)
}

// keptChoices is a copy of choices, and of all their lists.
func keptChoices(cs []search.Choice) []search.Choice {
	l := slices.Clone(cs)
	for i, c := range l {
		l[i].Predictor.Coefs = slices.Clone(c.Predictor.Coefs)
	}
	return l
}

// makesCorr fails, if another correction payload is made, or it does not mend.
func makesCorr(t *testing.T, s, coarse api.Sound, bound int, code string) {
	t.Helper()
	was, wasCoarse := kept(s), kept(coarse)
	b, e := block.Corr(s, coarse, bound)
	if e != api.OK || !bytes.Equal(b, packed(code)) {
		t.Fatalf("%v, %v, bound %d: %x, error %d, not %x", s, coarse, bound, b, e, packed(code))
	}
	if !same(s, was) || !same(coarse, wasCoarse) {
		t.Fatal("what was handed in has changed")
	}
	plays(t, mender(t, coarse, bound), b, was)
}

// makesWhole fails, if another whole payload is made, or it does not play as the sound.
func makesWhole(t *testing.T, s api.Sound, order, kind int, code string) {
	t.Helper()
	was := kept(s)
	b, e := block.Whole(s, order, kind)
	if e != api.OK || !bytes.Equal(b, packed(code)) {
		t.Fatalf("%v, order %d, window %d: %x, error %d, not %x", s, order, kind, b, e, packed(code))
	}
	if !same(s, was) {
		t.Fatal("what was handed in has changed")
	}
	plays(t, wholer(t, s.Format, len(s.Samples[0])), b, was)
}

// makesNone fails, if anything is made of sound, or there is another error.
func makesNone(t *testing.T, s api.Sound, want api.Errno) {
	t.Helper()
	n := max(1, len(s.Samples))
	noBase(t, s, slices.Repeat([]search.Choice{fixed(1)}, n), 1, 0, want)
	noWhole(t, s, 4, window.Hump, want)
	noChoices(t, s, 4, window.Hump, want)
	noCorr(t, s, s, 1, want)
}

func noBase(t *testing.T, s api.Sound, cs []search.Choice, step, shape int, want api.Errno) {
	t.Helper()
	if b, like, e := block.Base(s, cs, step, shape); e != want || len(b) > 0 || !nothing(like) {
		t.Errorf("%v, %v, step %d, shape %d: %x, %v, error %d, not %d", s.Format, cs, step, shape, b, like, e, want)
	}
}

func noCorr(t *testing.T, s, coarse api.Sound, bound int, want api.Errno) {
	t.Helper()
	if b, e := block.Corr(s, coarse, bound); e != want || len(b) > 0 {
		t.Errorf("%v, %v, bound %d: %x, error %d, not %d", s.Format, coarse.Format, bound, b, e, want)
	}
}

func noWhole(t *testing.T, s api.Sound, order, kind int, want api.Errno) {
	t.Helper()
	if b, e := block.Whole(s, order, kind); e != want || len(b) > 0 {
		t.Errorf("%v, order %d, window %d: %x, error %d, not %d", s.Format, order, kind, b, e, want)
	}
}

func noChoices(t *testing.T, s api.Sound, order, kind int, want api.Errno) {
	t.Helper()
	if cs, e := block.Choices(s, order, kind); e != want || len(cs) > 0 {
		t.Errorf("%v, order %d, window %d: %v, error %d, not %d", s.Format, order, kind, cs, e, want)
	}
}

// mono is sound of one channel of so many bits, stereo of two, and so on.
func sounds(bits int, lists ...[]int) api.Sound {
	return api.Sound{Format: api.Format{Channels: len(lists), Bits: bits, Rate: 8000}, Samples: lists}
}

// of8 is a format of 8 bits.
func of8(channels int) api.Format {
	return api.Format{Channels: channels, Bits: 8, Rate: 8000}
}

// silence is n frames of samples 0.
func silence(f api.Format, n int) api.Sound {
	s := api.Sound{Format: f}
	for range f.Channels {
		s.Samples = append(s.Samples, make([]int, n))
	}
	return s
}

// wrongFormats are such as are right but for one thing, or more.
func wrongFormats() []api.Format {
	l := []api.Format{{}, {Channels: 9, Bits: 25, Rate: 1 << 20}}
	for _, channels := range []int{math.MinInt, -1, 0, 9, 1<<32 + 1, math.MaxInt} {
		l = append(l, api.Format{Channels: channels, Bits: 8, Rate: 8000})
	}
	for _, bits := range []int{math.MinInt, -8, 0, 1, 7, 25, 32, 1<<32 + 8, math.MaxInt} {
		l = append(l, api.Format{Channels: 1, Bits: bits, Rate: 8000})
	}
	for _, rate := range []int{math.MinInt, -1, 0, 1 << 20, 1<<32 + 1, math.MaxInt} {
		l = append(l, api.Format{Channels: 2, Bits: 8, Rate: rate})
	}
	return l
}

// wrongSound is sound that may not be, and why.
type wrongSound struct {
	s    api.Sound
	want api.Errno
}

// noBlocks are right, but of no samples, or of too many.
func noBlocks() []api.Sound {
	long := make([]int, longest+1)
	return []api.Sound{sounds(8, nil), sounds(8, []int{}, nil, []int{}), sounds(24, long), sounds(8, long, long)}
}

// wrongSounds are such as may not be.
func wrongSounds() []wrongSound {
	long, far := make([]int, longest+1), slices.Repeat([]int{128}, longest+1)
	l := []wrongSound{
		{api.Sound{}, api.ErrFormat},
		{api.Sound{Format: of8(1)}, api.ErrLength},
		{api.Sound{Format: of8(1), Samples: [][]int{}}, api.ErrLength},
		{api.Sound{Format: of8(2), Samples: [][]int{{1}}}, api.ErrLength},
		{api.Sound{Format: of8(1), Samples: [][]int{{1}, {1}}}, api.ErrLength},
		{api.Sound{Format: of8(2), Samples: [][]int{{1}, {1}, {1}}}, api.ErrLength},
		{sounds(8, []int{1, 2}, []int{1}), api.ErrLength},
		{sounds(8, []int{1}, []int{1, 2}), api.ErrLength},
		{sounds(8, []int{1}, nil), api.ErrLength},
		{sounds(8, nil, []int{1}), api.ErrLength},
		{sounds(8, []int{1}, []int{300}, nil), api.ErrLength},
		// Too long for a block, too.
		{sounds(8, long, far), api.ErrSample},
		{sounds(8, far), api.ErrSample},
	}
	for _, f := range wrongFormats() {
		l = append(l, wrongSound{api.Sound{Format: f}, api.ErrFormat},
			wrongSound{api.Sound{Format: f, Samples: [][]int{{1}}}, api.ErrFormat},
			wrongSound{api.Sound{Format: f, Samples: [][]int{{1}, {1}}}, api.ErrFormat},
			wrongSound{api.Sound{Format: f, Samples: [][]int{{1 << 50}, nil}}, api.ErrFormat})
	}
	for bits := api.MinBits; bits <= api.MaxBits; bits++ {
		lo, hi := ends(bits)
		for _, y := range []int{lo - 1, hi + 1, math.MinInt, math.MaxInt} {
			l = append(l, wrongSound{sounds(bits, []int{y}), api.ErrSample},
				wrongSound{sounds(bits, []int{0, 0}, []int{lo, y}, []int{0, hi}), api.ErrSample},
				wrongSound{sounds(bits, []int{0, 0}, []int{lo, hi}, []int{0, y}), api.ErrSample})
		}
	}
	return l
}

// wrongSteps are steps and shapes that may not be, of samples of so many bits.
func wrongSteps(bits int) [][2]int {
	var l [][2]int
	for _, q := range []int{math.MinInt, -1, 0, 1<<(bits-1) + 1, 1 << bits, 1<<32 + 1, math.MaxInt} {
		l = append(l, [2]int{q, 0}, [2]int{q, 3}, [2]int{q, 4})
	}
	for _, shape := range []int{math.MinInt, -1, 4, 1 << 32, math.MaxInt} {
		l = append(l, [2]int{1, shape}, [2]int{1 << (bits - 1), shape})
	}
	return l
}

// wrongBounds are none.
func wrongBounds() []int {
	return []int{math.MinInt, -mostBound, -1, mostBound + 1, 1 << 32, math.MaxInt}
}

// P23.1, P23.2, P23.3, P23.4: sound that may not be, and such as is no block, whatever else is wrong.
func TestWrongSounds(t *testing.T) {
	all := wrongSounds()
	for _, s := range noBlocks() {
		all = append(all, wrongSound{s, api.ErrLength})
	}
	for _, c := range all {
		makesNone(t, c.s, c.want)
		noBase(t, c.s, nil, 0, 9, c.want)
		noWhole(t, c.s, -1, 9, c.want)
		noChoices(t, c.s, 33, -1, c.want)
		noCorr(t, c.s, c.s, -1, c.want)
		refuses(t, mender(t, c.s, 1), nil, c.want)
		refuses(t, mender(t, c.s, -1), []byte{0x80}, c.want)
	}
}

// P23.1: of each channel the best choice, of samples of the format's bits.
func TestChoices(t *testing.T) {
	x, tellings := noise(1), make([]int, 6)
	for range 150 {
		f, order, kind := x.format(), x.next(api.MaxOrder+1), x.next(3)
		s := x.sound(f, 1+x.next(300))
		was := kept(s)
		cs, e := block.Choices(s, order, kind)
		if e != api.OK || len(cs) != f.Channels || !same(s, was) {
			t.Fatalf("%v, order %d, window %d: %v, error %d", s, order, kind, cs, e)
		}
		for i, c := range cs {
			want, _, _ := search.Best(s.Samples[i], order, kind, f.Bits)
			if !alike(c, want) {
				t.Fatalf("%v, order %d, window %d: %v, not %v", s.Samples[i], order, kind, c, want)
			}
			tellings[1+c.Fixed]++
		}
	}
	if slices.Min(tellings[:4]) == 0 {
		t.Error(tellings)
	}
}

// P23.1: what is searched by is what was handed in, and no list is another one's.
func TestChoicesMatter(t *testing.T) {
	x := noise(2)
	l := x.swing(600, 16)
	s := sounds(16, l, l, l)
	cs, _ := block.Choices(s, 8, window.Hump)
	for _, o := range [][2]int{{1, window.Hump}, {8, window.Flat}, {8, window.Slope}} {
		if others, e := block.Choices(s, o[0], o[1]); e != api.OK || slices.EqualFunc(cs, others, alike) {
			t.Errorf("%v: %v, error %d", o, others, e)
		}
	}
	for i, c := range cs {
		if c.Fixed != told || len(c.Predictor.Coefs) == 0 {
			t.Fatal(c)
		}
		others := keptChoices(cs)
		for j := range c.Predictor.Coefs {
			c.Predictor.Coefs[j]++
		}
		_ = append(c.Predictor.Coefs, 77)
		for o := range cs {
			if o != i && !alike(cs[o], others[o]) {
				t.Fatal("lists of one answer share something")
			}
		}
	}
	// Guesses are kept within the format's bits: what these are may make another one the best.
	narrow, wide := 0, 0
	for range 300 {
		saw := x.list(40, 8)
		for i := range saw {
			saw[i] = between(3*saw[i], -128, 127)
		}
		eight, _ := block.Choices(sounds(8, saw), 4, window.Flat)
		best, _, _ := search.Best(saw, 4, window.Flat, 8)
		other, _, _ := search.Best(saw, 4, window.Flat, 24)
		if alike(best, other) {
			narrow++
			continue
		}
		wide++
		if !alike(eight[0], best) {
			t.Fatal(saw)
		}
	}
	if wide == 0 {
		t.Error(narrow, wide)
	}
}

// P23.1, P23.4: orders and windows that may not be, and the last ones that may.
func TestWrongSearch(t *testing.T) {
	x := noise(3)
	for _, s := range []api.Sound{sounds(8, []int{1}), x.sound(of8(2), 20), x.sound(of8(5), 1)} {
		for _, order := range []int{math.MinInt, -1, 33, 1 << 32, math.MaxInt} {
			for _, kind := range []int{window.Flat, window.Hump, 3} {
				noChoices(t, s, order, kind, api.ErrArg)
				noWhole(t, s, order, kind, api.ErrArg)
			}
		}
		for _, kind := range []int{math.MinInt, -1, 3, 1 << 32, math.MaxInt} {
			for _, order := range []int{0, 1, 32} {
				noChoices(t, s, order, kind, api.ErrArg)
				noWhole(t, s, order, kind, api.ErrArg)
			}
		}
		for _, order := range []int{0, 32} {
			for kind := range 3 {
				if _, e := block.Choices(s, order, kind); e != api.OK {
					t.Error(order, kind, e)
				}
				makesWhole(t, s, order, kind, wholeOf(s, order, kind))
			}
		}
	}
}

// P23.2, P23.5, P23.6: base payloads by hand.
func TestBaseByHand(t *testing.T) {
	for _, c := range []struct {
		s           api.Sound
		cs          []search.Choice
		step, shape int
		code        string
		heard       api.Sound
	}{
		{sounds(8, []int{5, 5, 5}), []search.Choice{fixed(0)}, 1, 0, "00 00000101", sounds(8, []int{5, 5, 5})},
		{sounds(8, []int{5, 5, 5}), []search.Choice{fixed(3)}, 128, 3, "00 00000101", sounds(8, []int{5, 5, 5})},
		{silence(of8(2), 256), []search.Choice{fixed(0), fixed(1)}, 4, 0, "00 00000000 00 00000000", silence(of8(2), 256)},
		{sounds(8, []int{100, -100}), []search.Choice{fixed(0)}, 4, 0, "01 01100100 10011100", sounds(8, []int{100, -100})},
		{sounds(16, []int{10, 21, 30}), []search.Choice{fixed(1)}, 4, 0, "10 0001 000 000010 1010 1000 1010", sounds(16, []int{12, 20, 32})},
		{sounds(16, []int{10, 21, 30}), []search.Choice{of(0, 1)}, 4, 0, "10 1 000001 0000 0001 01 000 000010 1010 1000 1010", sounds(16, []int{12, 20, 32})},
		// Each channel by its own choice, and neither changes the other one.
		{
			sounds(16, []int{10, 21, 30}, []int{-9, -9, -9}, []int{10, 21, 30}), []search.Choice{of(0, 1), fixed(2), fixed(1)}, 4, 0,
			"10 1 000001 0000 0001 01 000 000010 1010 1000 1010" + "00 1111111111110111" + "10 0001 000 000010 1010 1000 1010",
			sounds(16, []int{12, 20, 32}, []int{-9, -9, -9}, []int{12, 20, 32}),
		},
		// Shaped, levels are half as far apart.
		{sounds(8, []int{20, 20, 20, 21}), []search.Choice{fixed(0)}, 128, 1, "10 0000 000 000000 0 110 0 0", sounds(8, []int{0, 64, 0, 0})},
	} {
		code := strings.ReplaceAll(c.code, " ", "")
		if model, heard := baseOf(c.s, c.cs, c.step, c.shape); model != code || !same(heard, c.heard) {
			t.Errorf("the model of %v: %s, %v, not %s, %v", c.s, model, heard, code, c.heard)
		}
		makesBase(t, c.s, c.cs, c.step, c.shape, code, c.heard)
		ended(t, baser(t, c.s.Format, len(c.s.Samples[0]), c.step, c.shape), packed(code), len(code))
	}
}

// P23.3, P23.5, P23.6: correction payloads by hand.
func TestCorrByHand(t *testing.T) {
	for _, c := range []struct {
		s, coarse api.Sound
		bound     int
		code      string
	}{
		{sounds(16, []int{10, 21, 30}), sounds(16, []int{12, 20, 32}), 2, "0 00 110 00"},
		{sounds(8, []int{5, 4, 6}), sounds(8, []int{5, 5, 5}), 1, "0 10 0 11"},
		// Nothing is missed: a bit each.
		{sounds(8, []int{5, 4, 6}, []int{1, 2, 3}), sounds(8, []int{5, 4, 6}, []int{1, 2, 3}), 0, "0 0"},
		{sounds(8, []int{127, -128}), sounds(8, []int{-128, 127}), 255, "0 111111111 00000000"},
		// Noughts take less in parts.
		{silence(of8(1), 20), silence(of8(1), 20), 3, "1 000 011111"},
		{
			sounds(8, []int{10, 21, 30}, []int{5, 4, 6}), sounds(8, []int{12, 20, 32}, []int{5, 5, 5}), 2,
			"0 00 110 00 0 10 01 110",
		},
	} {
		code := strings.ReplaceAll(c.code, " ", "")
		if model := corrOf(c.s, c.coarse, c.bound); model != code {
			t.Errorf("the model of %v: %s, not %s", c.s, model, code)
		}
		makesCorr(t, c.s, c.coarse, c.bound, code)
		ended(t, mender(t, c.coarse, c.bound), packed(code), len(code))
	}
}

// P23.4, P23.5, P23.7: whole payloads by hand.
func TestWholeByHand(t *testing.T) {
	for _, c := range []struct {
		s    api.Sound
		code string
	}{
		{silence(of8(2), 1), "00 00 00000000 00 00000000"},
		{silence(of8(2), 256), "00 00 00000000 00 00000000"},
		{silence(of8(2), longest), "00 00 00000000 00 00000000"},
		{silence(of8(1), 256), "00 00000000"},
		{sounds(8, []int{1, 2, 3}), "10 0010 000 000000 110 0 0"},
		// A difference has a bit more, and stands where its mode says.
		{sounds(8, []int{9, 7}, []int{8, 6}), "10 00 000000001 01 00001000 00000110"},
		{sounds(8, []int{8, 6}, []int{0, 0}), "00 01 00001000 00000110 00 00000000"},
		{sounds(8, []int{8, 6, 2}, []int{9, 7, 3}), "01 01 00001000 00000110 00000010 00 111111111"},
		{sounds(8, []int{-2, -6}, []int{-2, -2}), "11 01 11111110 11111100 01 000000000 111111100"},
		// A last one alone has no mode, and the format's bits.
		{sounds(8, []int{9, 7}, []int{8, 6}, []int{4, 4}), "10 00 000000001 01 00001000 00000110 00 00000100"},
		{
			sounds(8, []int{9, 7}, []int{8, 6}, []int{0, 0}, []int{0, 0}, []int{1, -1}),
			"10 00 000000001 01 00001000 00000110" + "00 00 00000000 00 00000000" + "01 00000001 11111111",
		},
	} {
		code := strings.ReplaceAll(c.code, " ", "")
		if model := wholeOf(c.s, 4, window.Hump); model != code {
			t.Errorf("the model of %v: %s, not %s", c.s, model, code)
		}
		makesWhole(t, c.s, 4, window.Hump, code)
		ended(t, wholer(t, c.s.Format, len(c.s.Samples[0])), packed(code), len(code))
	}
	if b, e := block.Whole(silence(of8(2), 300), 0, window.Flat); e != api.OK || string(b) != "\x00\x00\x00" {
		t.Error(b, e)
	}
}

// heard fails, if a base payload sounds too far from the sound, or takes too much.
func heard(t *testing.T, s, like api.Sound, payload []byte, step int) {
	t.Helper()
	n, bits := len(s.Samples[0]), s.Format.Bits
	if most := s.Format.Channels * (2 + n*bits); len(payload) > (most+7)/8 {
		t.Fatalf("%v, %d samples: %d bytes", s.Format, n, len(payload))
	}
	if like.Format != s.Format || len(like.Samples) != len(s.Samples) {
		t.Fatalf("%v sounds like %v", s, like)
	}
	for c, l := range s.Samples {
		for i, y := range like.Samples[c] {
			if d := y - l[i]; max(d, -d) > step/2 || !fits(y, bits) || step == 1 && d != 0 {
				t.Fatalf("%v, step %d: sounds like %v", s, step, like)
			}
		}
	}
}

// P23.2, P23.3, P23.5, P23.6, P23.8: sound of all kinds: a base, and a correction by which it is the sound.
func TestPairs(t *testing.T) {
	x := noise(4)
	for range 300 {
		f, shape := x.format(), x.next(4)
		s, cs, step := x.sound(f, 1+x.next(200)), x.choices(f.Channels), x.step(f.Bits)
		code, like := baseOf(s, cs, step, shape)
		makesBase(t, s, cs, step, shape, code, like)
		heard(t, s, like, packed(code), step)
		for _, bound := range []int{step / 2, step/2 + x.next(100), mostBound} {
			makesCorr(t, s, like, bound, corrOf(s, like, bound))
		}
	}
}

// P23.4, P23.5, P23.7: sound of all kinds, whole.
func TestWholes(t *testing.T) {
	x, modes := noise(5), make([]int, 4)
	for range 200 {
		f, order, kind := x.format(), x.next(api.MaxOrder+1), x.next(3)
		s := x.sound(f, 1+x.next(200))
		code := wholeOf(s, order, kind)
		makesWhole(t, s, order, kind, code)
		if f.Channels > 1 {
			modes[packed(code)[0]>>6]++
		}
	}
	if slices.Min(modes) < 5 {
		t.Error(modes)
	}
}

// P23.4: orders and windows are those that are given.
func TestWholeMatters(t *testing.T) {
	x := noise(6)
	l := x.swing(600, 16)
	for _, s := range []api.Sound{sounds(16, l), sounds(16, l, x.swing(600, 16)), sounds(16, x.near(l, 9), l, l)} {
		first, _ := block.Whole(s, 8, window.Hump)
		for _, o := range [][2]int{{1, window.Hump}, {8, window.Flat}, {8, window.Slope}} {
			if b, e := block.Whole(s, o[0], o[1]); e != api.OK || bytes.Equal(b, first) {
				t.Errorf("%v: as with others, error %d", o, e)
			}
			makesWhole(t, s, o[0], o[1], wholeOf(s, o[0], o[1]))
		}
	}
}

// P23.2, P23.5: the longest blocks, of as many channels as may be.
func TestLongest(t *testing.T) {
	x := noise(7)
	for _, f := range []api.Format{{Channels: 1, Bits: 24, Rate: 48000}, {Channels: 8, Bits: 8, Rate: 1}} {
		s := api.Sound{Format: f}
		for range f.Channels {
			s.Samples = append(s.Samples, x.list(longest, f.Bits))
		}
		cs := slices.Repeat([]search.Choice{fixed(1)}, f.Channels)
		code, like := baseOf(s, cs, 12, 1)
		makesBase(t, s, cs, 12, 1, code, like)
		heard(t, s, like, packed(code), 12)
		makesCorr(t, s, like, 6, corrOf(s, like, 6))
		makesWhole(t, s, 1, window.Flat, wholeOf(s, 1, window.Flat))
		if cs, e := block.Choices(s, 1, window.Flat); e != api.OK || len(cs) != f.Channels {
			t.Error(cs, e)
		}
	}
}

// P23.2: choices that are not as many as channels, or none, and steps and shapes that may not be.
func TestBaseWrong(t *testing.T) {
	x := noise(8)
	noChoice := []search.Choice{{Fixed: 1}, {Fixed: 5}, {Fixed: -2}, {Fixed: 2, Predictor: fixed(1).Predictor}, of(16), of(-1, 1), of(0, 1<<15), of(0, make([]int, 33)...)}
	for channels := 1; channels <= api.MaxChannels; channels++ {
		for _, bits := range []int{8, 16, 24} {
			s := x.sound(api.Format{Channels: channels, Bits: bits, Rate: 1}, 1+x.next(10))
			for _, n := range []int{0, 1, channels - 1, channels + 1, 2 * channels, 9} {
				if n != channels {
					noBase(t, s, x.choices(n), 1, 0, api.ErrArg)
				}
			}
			noBase(t, s, nil, 1, 0, api.ErrArg)
			for _, wrong := range wrongSteps(bits) {
				noBase(t, s, x.choices(channels), wrong[0], wrong[1], api.ErrArg)
			}
			for at := range channels {
				for _, wrong := range noChoice {
					cs := x.choices(channels)
					cs[at] = wrong
					noBase(t, s, cs, 1, 0, api.ErrArg)
				}
			}
			for _, step := range []int{1, 1 << (bits - 1)} {
				cs, shape := x.choices(channels), 3*x.next(2)
				code, like := baseOf(s, cs, step, shape)
				makesBase(t, s, cs, step, shape, code, like)
			}
		}
	}
}

// P23.3: both sounds, the first one first; then whether they are of one kind, then bounds, and what is beyond these.
func TestCorrWrong(t *testing.T) {
	right := sounds(8, []int{1, 2}, []int{3, 4})
	for _, c := range wrongSounds() {
		noCorr(t, c.s, right, -1, c.want)
		noCorr(t, right, c.s, -1, c.want)
		noCorr(t, api.Sound{}, c.s, 1, api.ErrFormat)
		noCorr(t, sounds(8, []int{1}, nil), c.s, 1, api.ErrLength)
		noCorr(t, sounds(8, []int{128}), c.s, 1, api.ErrSample)
		noCorr(t, c.s, sounds(8, []int{128}), 1, c.want)
	}
	empty, long := silence(of8(1), 0), silence(of8(1), longest+1)
	one, two := silence(of8(1), 1), silence(of8(1), 2)
	for _, f := range []api.Format{{Channels: 2, Bits: 8, Rate: 8000}, {Channels: 1, Bits: 9, Rate: 8000}, {Channels: 1, Bits: 8, Rate: 8001}} {
		for _, n := range []int{0, 1, 2, longest + 1} {
			for _, s := range []api.Sound{empty, one, two, long} {
				noCorr(t, s, silence(f, n), -1, api.ErrFormat)
				noCorr(t, silence(f, n), s, 1, api.ErrFormat)
			}
		}
	}
	for i, s := range []api.Sound{one, two, empty, long, silence(of8(1), longest)} {
		for j, coarse := range []api.Sound{one, two, empty, long, silence(of8(1), longest)} {
			if i != j || i == 2 || i == 3 {
				noCorr(t, s, coarse, -1, api.ErrLength)
				noCorr(t, s, coarse, 1, api.ErrLength)
			}
		}
	}
	for _, bound := range wrongBounds() {
		noCorr(t, one, one, bound, api.ErrArg)
		noCorr(t, sounds(8, []int{1}), sounds(8, []int{-9}), bound, api.ErrArg)
	}
	for _, bound := range []int{0, 1, 5, 100, 254} {
		for at := range 3 {
			for _, sign := range []int{-1, 1} {
				s, coarse := sounds(16, []int{0, 0}, []int{0, 0}, []int{0, 0}), sounds(16, []int{0, 0}, []int{0, 0}, []int{0, 0})
				s.Samples[at][1], coarse.Samples[at][1] = sign*(bound+1)/2, sign*(bound+1)/2-sign*(bound+1)
				noCorr(t, s, coarse, bound, api.ErrBound)
				makesCorr(t, s, coarse, bound+1, corrOf(s, coarse, bound+1))
			}
		}
	}
}

// P23.5: formats, numbers of samples, steps, shapes and bounds that may not be, whatever bytes there are.
func TestPlayWrong(t *testing.T) {
	wrong := []int{math.MinInt, -1, 0, longest + 1, 1<<32 + 1, math.MaxInt}
	for _, b := range [][]byte{nil, {}, {0}, {0, 0, 0}, {0xff}, packed("00 00000101"), bytes.Repeat([]byte{1}, 100)} {
		for _, f := range wrongFormats() {
			for _, n := range append(wrong, 1, 3, longest) {
				refuses(t, baser(t, f, n, 1, 0), b, api.ErrFormat)
				refuses(t, baser(t, f, n, 0, 4), b, api.ErrFormat)
				refuses(t, wholer(t, f, n), b, api.ErrFormat)
			}
		}
		for _, f := range []api.Format{of8(1), of8(8), {Channels: 3, Bits: 24, Rate: 1}} {
			for _, n := range wrong {
				refuses(t, baser(t, f, n, 1, 0), b, api.ErrArg)
				refuses(t, wholer(t, f, n), b, api.ErrArg)
			}
			for _, l := range wrongSteps(f.Bits) {
				refuses(t, baser(t, f, 1, l[0], l[1]), b, api.ErrArg)
				refuses(t, baser(t, f, longest, l[0], l[1]), b, api.ErrArg)
			}
			for _, bound := range wrongBounds() {
				refuses(t, mender(t, silence(f, 1), bound), b, api.ErrArg)
				refuses(t, mender(t, silence(f, 300), bound), b, api.ErrArg)
			}
		}
	}
	for _, n := range []int{1, longest} {
		for _, channels := range []int{1, 2, 3} {
			f := of8(channels)
			for _, b := range [][]byte{nil, {}, {0}} {
				refuses(t, baser(t, f, n, 128, 3), b, api.ErrEnd)
				refuses(t, wholer(t, f, n), b, api.ErrEnd)
			}
			refuses(t, mender(t, silence(f, n), 0), nil, api.ErrEnd)
			refuses(t, mender(t, silence(f, n), mostBound), []byte{}, api.ErrEnd)
		}
	}
}

// P23.5: the first error by which a channel is read is told, channel by channel.
func TestPlayErrors(t *testing.T) {
	// A level that is too far out, as it is, in 37 bits.
	far := "10 0000 000 100001 100101" + digits(1<<36, 37)
	flat, coarse := sounds(8, []int{1}, []int{1}), sounds(8, []int{127}, []int{0})
	for _, c := range []struct {
		play player
		code string
		want api.Errno
	}{
		{baser(t, of8(1), 1, 1, 0), "11 000000 00000000", api.ErrCode},
		{baser(t, of8(1), 1, 1, 0), "10 0101 00", api.ErrCode},
		{baser(t, of8(1), 1, 1, 0), "10 0001 00", api.ErrEnd},
		{baser(t, of8(1), 1, 1, 0), far, api.ErrRange},
		{baser(t, of8(2), 1, 1, 0), "11 000000 1", api.ErrCode},
		{baser(t, of8(2), 1, 1, 0), "00 00000001 00 00", api.ErrEnd},
		{baser(t, of8(2), 1, 1, 0), "00 00000001 11 00000000 0000", api.ErrCode},
		{baser(t, of8(2), 1, 1, 0), "11 00000001 00 0", api.ErrCode},
		{baser(t, of8(2), 1, 1, 0), far, api.ErrRange},
		{baser(t, of8(2), 1, 1, 0), "00 00000001" + far + "1", api.ErrRange},
		// Errors at the end come behind those of all channels, bits ahead of bytes.
		{baser(t, of8(2), 1, 1, 0), "00 00000001 11 1111 00000000 00000000", api.ErrCode},
		{baser(t, of8(2), 1, 1, 0), "00 00000001 00 00000001 0001 00000000", api.ErrBits},
		{baser(t, of8(2), 1, 1, 0), "00 00000001 00 00000001 0000 00000000", api.ErrSize},
		{baser(t, of8(2), 1, 1, 0), "00 00000001 00 00000001 0000 10000000", api.ErrSize},

		{mender(t, flat, 1), "1 000 0000", api.ErrEnd},
		{mender(t, flat, 1), "1 111 0000", api.ErrCode},
		{mender(t, flat, 1), "1 000 111111 0", api.ErrCode},
		{mender(t, flat, 1), "1 000 000000 1110", api.ErrBound},
		{mender(t, flat, 1), "1 000 000000 11110", api.ErrBound},
		{mender(t, flat, 1), "0 0 1 000 000000 1110", api.ErrBound},
		{mender(t, flat, 1), "0 10 1 000 000000 1110", api.ErrBound},
		// The first channel cannot be mended: that is told ahead of what is wrong with the second one.
		{mender(t, coarse, 1), "0 11 0 0", api.ErrSample},
		{mender(t, coarse, 1), "0 11", api.ErrSample},
		{mender(t, coarse, 1), "0 11 1 111 00", api.ErrSample},
		{mender(t, coarse, 1), "0 11 0 10 11", api.ErrSample},
		{mender(t, coarse, 1), "0 11 0 10 00 00000000", api.ErrSample},
		{mender(t, coarse, 1), "0 10 0 10 01", api.ErrBits},
		{mender(t, coarse, 1), "0 10 0 10 01 00000000", api.ErrBits},
		{mender(t, coarse, 1), "0 10 0 10 00 00000000", api.ErrSize},
		{mender(t, sounds(8, []int{0}, []int{-128}), 1), "0 10 0 0 000", api.ErrSample},
		{mender(t, sounds(8, []int{0}, []int{-128}), 1), "0 10 0 0 011", api.ErrSample},

		{wholer(t, of8(1), 1), "11 000000", api.ErrCode},
		{wholer(t, of8(1), 1), "10 0101 00", api.ErrCode},
		{wholer(t, of8(1), 1), "10 0000 000 000111 110 0000000", api.ErrSample},
		{wholer(t, of8(2), 1), "00 11 0000", api.ErrCode},
		{wholer(t, of8(2), 1), "01 00 00000001 11 00", api.ErrCode},
		{wholer(t, of8(2), 1), "01 00 00000001 00 00", api.ErrEnd},
		// Of a difference that does not fit none is made: 1 less 200 is no sample of 8 bits, 1 less -127 neither.
		{wholer(t, of8(2), 1), "01 00 00000001 00 011001000", api.ErrSample},
		{wholer(t, of8(2), 1), "01 00 00000001 00 110000001 1", api.ErrSample},
		{wholer(t, of8(2), 1), "10 00 001111111 00 00000001", api.ErrSample},
		{wholer(t, of8(2), 1), "11 00 01111111 00 000000001", api.ErrSample},
		// That is told ahead of what is wrong with channels behind the pair.
		{wholer(t, of8(3), 1), "01 00 00000001 00 011001000", api.ErrSample},
		{wholer(t, of8(3), 1), "01 00 00000001 00 011001000 11 0", api.ErrSample},
		{wholer(t, of8(4), 1), "01 00 00000001 00 011001000 00 11 00000", api.ErrSample},
		{wholer(t, of8(4), 1), "01 00 00000001 00 000000001 00 11 00000", api.ErrCode},
		{wholer(t, of8(3), 1), "01 00 00000001 00 000000001 11 0", api.ErrCode},
		{wholer(t, of8(3), 1), "01 00 00000001 00 000000001 0", api.ErrEnd},
		{wholer(t, of8(3), 1), "00 00 00000001 00 00000001 00 00000001", api.OK},
		{wholer(t, of8(3), 1), "00 00 00000001 00 00000001 00 00000001 00000000", api.ErrSize},
		{wholer(t, of8(1), 1), "00 00000001 000000", api.OK},
		{wholer(t, of8(1), 1), "00 00000001 000001", api.ErrBits},
		{wholer(t, of8(1), 1), "00 00000001 100000 00000000", api.ErrBits},
		{wholer(t, of8(1), 1), "00 00000001 000000 00000001", api.ErrSize},
	} {
		if c.want != api.OK {
			refuses(t, c.play, packed(c.code), c.want)
		} else if _, e := c.play(packed(c.code)); e != api.OK {
			t.Errorf("%s: error %d", c.code, e)
		}
	}
}

// P23.5: payloads that no call makes play, too: with whatever modes, and orders.
func TestOtherModes(t *testing.T) {
	x := noise(9)
	for range 200 {
		f := x.format()
		s := x.sound(f, 1+x.next(40))
		code := wholeOf(s, x.next(9), x.next(3), x.next(4), x.next(4), x.next(4), x.next(4))
		plays(t, wholer(t, f, len(s.Samples[0])), packed(code), s)
	}
}

// P23.5: payloads with changed bits, or that are cut off, or longer, channel by channel.
func TestChanged(t *testing.T) {
	x, errors := noise(10), map[api.Errno]int{}
	for range 250 {
		f, n, shape := x.format(), 1+x.next(30), x.next(4)
		s, cs, step := x.sound(f, n), x.choices(f.Channels), x.step(f.Bits)
		baseBytes, like, _ := block.Base(s, cs, step, shape)
		corrBytes, _ := block.Corr(s, like, step/2)
		wholeBytes, _ := block.Whole(s, 4, window.Hump)
		for range 20 {
			errors[likewise(t, baser(t, f, n, step, shape), func(b []byte) (api.Sound, api.Errno) { return playedBase(f, b, n, step, shape) }, x.changed(baseBytes))]++
			errors[likewise(t, mender(t, like, step/2), func(b []byte) (api.Sound, api.Errno) { return playedCorr(like, b, step/2) }, x.changed(corrBytes))]++
			errors[likewise(t, wholer(t, f, n), func(b []byte) (api.Sound, api.Errno) { return playedWhole(f, b, n) }, x.changed(wholeBytes))]++
		}
	}
	for _, e := range []api.Errno{api.OK, api.ErrEnd, api.ErrCode, api.ErrBits, api.ErrSize, api.ErrSample, api.ErrBound} {
		if errors[e] == 0 {
			t.Error(e, errors)
		}
	}
}

// changed is bytes with some bits turned, or cut off, or with others behind.
func (x *noise) changed(b []byte) []byte {
	b = bytes.Clone(b)
	switch x.next(8) {
	case 0:
		return b[:x.next(len(b)+1)]
	case 1:
		return append(b, x.bytes(1+x.next(3))...)
	case 2:
		b[len(b)-1] ^= 1 << x.next(8)
		return b
	}
	for range 1 + x.next(3) {
		b[x.next(len(b))] ^= 1 << x.next(8)
	}
	return b
}

// P1, P23.5: whatever bytes: that ends, with right sound of as many samples, or with an error.
func TestWhatever(t *testing.T) {
	x := noise(11)
	for range 20000 {
		f, n, b := x.format(), 1+x.next(12), x.bytes(x.next(60))
		if x.next(2) == 0 {
			f.Channels = 1 + x.next(2)
		}
		step, shape := x.step(f.Bits), x.next(4)
		coarse, bound := x.sound(f, n), x.next(1<<x.next(32))
		for _, play := range []player{baser(t, f, n, step, shape), mender(t, coarse, bound), wholer(t, f, n)} {
			s, e := play(b)
			if e != api.OK {
				refuses(t, play, b, e)
				continue
			}
			if s.Format != f || len(s.Samples) != f.Channels {
				t.Fatalf("%v: %v", f, s)
			}
			for _, l := range s.Samples {
				if len(l) != n || slices.ContainsFunc(l, func(y int) bool { return !fits(y, f.Bits) }) {
					t.Fatalf("%v: %v", f, s)
				}
			}
		}
	}
	// As many samples as may be, of hardly any bytes.
	for _, b := range [][]byte{{0}, {0, 0}, bytes.Repeat([]byte{0}, 20), bytes.Repeat([]byte{0xff}, 20), bytes.Repeat([]byte{0x80, 0x0f}, 20)} {
		f := api.Format{Channels: 8, Bits: 24, Rate: 1}
		block.PlayBase(f, b, longest, 1, 0)
		block.PlayWhole(f, b, longest)
		block.PlayCorr(silence(f, longest), b, mostBound)
	}
}

// P23.6: what is missed is told by the layer below; a base's bound is enough of it.
func TestBoundIsEnough(t *testing.T) {
	x := noise(12)
	for range 200 {
		f, shape := x.format(), x.next(4)
		s, step := x.sound(f, 1+x.next(100)), x.step(f.Bits)
		_, like, _ := block.Base(s, x.choices(f.Channels), step, shape)
		least := 0
		for c, l := range s.Samples {
			missed, e := loop.Misses(l, like.Samples[c], step/2)
			if e != api.OK {
				t.Fatalf("%v, step %d: %v, error %d", l, step, like.Samples[c], e)
			}
			least = max(least, corr.Bound(missed))
		}
		makesCorr(t, s, like, least, corrOf(s, like, least))
		if least > 0 {
			noCorr(t, s, like, least-1, api.ErrBound)
		}
	}
}
