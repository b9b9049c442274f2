package tags_test

import (
	"bytes"
	"encoding/binary"
	"hash/crc32"
	"math"
	"slices"
	"strings"
	"testing"

	"descant/api"
	"descant/crc"
	"descant/tags"
)

const mostLetter = 0x10FFFF // the greatest letter

// noise is numbers that look like chance, and are the same ones at each run.
type noise uint64

func (x *noise) next(n int) int {
	*x = *x*6364136223846793005 + 1442695040888963407
	return int(*x >> 33 % noise(n))
}

func (x *noise) bytes(n int) []byte {
	b := make([]byte, n)
	for i := range b {
		b[i] = byte(x.next(256))
	}
	return b
}

// letter is one that may stand in a value, of each length.
func (x *noise) letter() int {
	for {
		v := 0x20 + x.next([]int{0x60, 0x7E0, 0xFFE0, mostLetter - 0x1F}[x.next(4)])
		if v < 0xD800 || v > 0xDFFF {
			return v
		}
	}
}

// value is one of up to n letters.
func (x *noise) value(n int) string {
	var b []byte
	for range x.next(n + 1) {
		b = append(b, letterBytes(x.letter())...)
	}
	return string(b)
}

// key is one of a few letters, often alike to another one.
func (x *noise) key() string {
	if x.next(2) == 0 {
		return []string{"Title", "TITLE", "title", "tItLe", "Artist", "artist", "a", "A", "b"}[x.next(9)]
	}
	b := make([]byte, 1+x.next(32))
	for i := range b {
		b[i] = byte(0x20 + x.next(0x5D))
		if b[i] >= '=' {
			b[i]++
		}
	}
	return string(b)
}

// text is whatever bytes, some of which are letters.
func (x *noise) text(n int) string {
	var b []byte
	for range x.next(n + 1) {
		c := letterBytes(x.letter())
		switch x.next(5) {
		case 0:
			c = c[:x.next(len(c))]
		case 1:
			c[x.next(len(c))] ^= 1 << x.next(8)
		case 2:
			c = x.bytes(1 + x.next(3))
		}
		b = append(b, c...)
	}
	return string(b)
}

// tags are up to n tags, no two keys of which are alike.
func (x *noise) tags(n int) []api.Tag {
	var l []api.Tag
	for range x.next(n + 1) {
		t := api.Tag{Key: x.key(), Value: x.value(20)}
		if !slices.ContainsFunc(l, func(o api.Tag) bool { return isAlike(o.Key, t.Key) }) {
			l = append(l, t)
		}
	}
	return l
}

// any are tags that may be wrong.
func (x *noise) any(n int) []api.Tag {
	l := make([]api.Tag, x.next(n+1))
	for i := range l {
		l[i] = api.Tag{Key: x.key(), Value: x.value(3)}
		switch x.next(24) {
		case 0:
			l[i].Key = x.text(2)
		case 1:
			l[i].Value = x.text(3)
		case 2:
			l[i] = api.Tag{}
		}
	}
	return l
}

// letterBytes are the bytes of a letter, as UTF-8 lays them, also of numbers that are none.
func letterBytes(v int) []byte {
	switch {
	case v < 1<<7:
		return []byte{byte(v)}
	case v < 1<<11:
		return spread(v, 2)
	case v < 1<<16:
		return spread(v, 3)
	}
	return spread(v, 4)
}

// spread is a number in n bytes, from two to four: the first one says how many there are, each of the others has six bits.
func spread(v, n int) []byte {
	b := make([]byte, n)
	for i := n - 1; i > 0; i-- {
		b[i] = byte(0x80 | v&0x3F)
		v >>= 6
	}
	b[0] = byte(0xF00>>n&0xFF | v)
	return b
}

// first is the letter with which bytes begin, and how many bytes it has; 0 bytes, if they begin with none.
func first(b string) (int, int) {
	if b == "" {
		return 0, 0
	}
	for n := 1; n <= min(4, len(b)); n++ {
		v := int(b[0])
		if n > 1 {
			v = int(b[0]) & (0x7F >> n)
		}
		for _, c := range []byte(b[1:n]) {
			v = v<<6 | int(c&0x3F)
		}
		if v <= mostLetter && (v < 0xD800 || v > 0xDFFF) && string(letterBytes(v)) == b[:n] {
			return v, n
		}
	}
	return 0, 0
}

// pieces are a text's letters, and its bytes that are part of none.
func pieces(s string) []string {
	var l []string
	for s != "" {
		_, n := first(s)
		n = max(n, 1)
		l, s = append(l, s[:n]), s[n:]
	}
	return l
}

// isAlike tells whether two keys are alike.
func isAlike(a, b string) bool {
	if len(a) != len(b) {
		return false
	}
	for i := range len(a) {
		if small(a[i]) != small(b[i]) {
			return false
		}
	}
	return true
}

// small is a letter from A to Z as the small one.
func small(c byte) byte {
	if at := strings.IndexByte("ABCDEFGHIJKLMNOPQRSTUVWXYZ", c); at >= 0 {
		return "abcdefghijklmnopqrstuvwxyz"[at]
	}
	return c
}

// isKey tells whether a text is a key, as the words say it.
func isKey(s string) bool {
	for _, c := range []byte(s) {
		if c < 0x20 || c > 0x7D || c == '=' {
			return false
		}
	}
	return len(s) >= 1 && len(s) <= 32
}

// isValue tells whether a text is a value, as the words say it.
func isValue(s string) bool {
	if len(s) > 1024 {
		return false
	}
	for s != "" {
		v, n := first(s)
		if n == 0 || v < 0x20 {
			return false
		}
		s = s[n:]
	}
	return true
}

// checked is what is wrong with tags, and where, as the words say it.
func checked(l []api.Tag) (int, api.Errno) {
	if len(l) > 64 {
		return 0, api.ErrLong
	}
	for i, t := range l {
		if !isKey(t.Key) {
			return i, api.ErrTag
		}
		for _, o := range l[:i] {
			if isAlike(o.Key, t.Key) {
				return i, api.ErrTag
			}
		}
		if !isValue(t.Value) {
			return i, api.ErrText
		}
	}
	return 0, api.OK
}

// set is tags with one that is so, as the words say it.
func set(l []api.Tag, t api.Tag) []api.Tag {
	var with []api.Tag
	found := false
	for _, o := range l {
		if !found && isAlike(o.Key, t.Key) {
			found, o = true, t
		}
		with = append(with, o)
	}
	if !found {
		with = append(with, t)
	}
	return with
}

// without is tags without those of a key.
func without(l []api.Tag, key string) []api.Tag {
	var left []api.Tag
	for _, o := range l {
		if !isAlike(o.Key, key) {
			left = append(left, o)
		}
	}
	return left
}

// summed are bytes, and their sum behind them.
func summed(b []byte) []byte {
	return binary.LittleEndian.AppendUint32(bytes.Clone(b), crc32.ChecksumIEEE(b))
}

// laid are tags ahead of their sum, with another number of them; also of tags that are not right.
func laid(n int, l []api.Tag) []byte {
	b := []byte{'T', 'G', byte(n)}
	for _, t := range l {
		b = append(b, byte(len(t.Key)))
		b = append(b, t.Key...)
		b = append(b, byte(len(t.Value)%256), byte(len(t.Value)/256))
		b = append(b, t.Value...)
	}
	return b
}

// bytesOf are tags' bytes, as the words say it.
func bytesOf(l []api.Tag) []byte {
	return summed(laid(len(l), l))
}

// taken are tags, how many bytes they have, and an error, as the words say it; sum is that of a table.
func taken(b []byte, sum func(b []byte) uint32) ([]api.Tag, int, api.Errno) {
	if len(b) > 0 && b[0] != 'T' || len(b) > 1 && b[1] != 'G' {
		return nil, 0, api.ErrKind
	}
	at, missing := 2, len(b) < 2
	next := func(n int) []byte {
		if missing = missing || len(b)-at < n; missing {
			return make([]byte, n)
		}
		at += n
		return b[at-n : at]
	}
	number := func(n int) int {
		v := 0
		for i, c := range next(n) {
			v += int(c) << (8 * i)
		}
		return v
	}
	var l []api.Tag
	for range number(1) {
		key := string(next(number(1)))
		l = append(l, api.Tag{Key: key, Value: string(next(number(2)))})
	}
	end := at
	said := number(4)
	if missing {
		return nil, 0, api.ErrEnd
	}
	if said != int(sum(b[:end])) {
		return nil, 0, api.ErrSum
	}
	if _, e := checked(l); e != api.OK {
		return nil, 0, e
	}
	return l, at, api.OK
}

// checks fails, if tags are checked otherwise, or put otherwise, or change by that.
func checks(t *testing.T, l []api.Tag, place int, want api.Errno) {
	t.Helper()
	was := slices.Clone(l)
	if at, e := tags.Check(l); at != place || e != want {
		t.Fatalf("%q: place %d, error %d, not %d, %d", l, at, e, place, want)
	}
	b, e := tags.Put(crc.Make(), l)
	if e != want || e != api.OK && len(b) > 0 || e == api.OK && !bytes.Equal(b, bytesOf(l)) {
		t.Fatalf("%q: % X, error %d, not %d", l, b, e, want)
	}
	if b, e := tags.Put(nil, l); e != api.ErrNil || len(b) > 0 {
		t.Fatalf("%q, no table: % X, error %d", l, b, e)
	}
	if !slices.Equal(l, was) {
		t.Fatal("what was handed in has changed")
	}
}

// gets fails, if other tags are got of bytes, whatever stands behind them, or these are not put as the bytes.
func gets(t *testing.T, b []byte, want []api.Tag) {
	t.Helper()
	table := crc.Make()
	for _, behind := range [][]byte{nil, {0}, {'T'}, b, make([]byte, 100)} {
		all := slices.Concat(b, behind)
		was := bytes.Clone(all)
		l, n, e := tags.Get(table, all)
		if e != api.OK || n != len(b) || !slices.Equal(l, want) {
			t.Fatalf("% X: %q, %d bytes, error %d, not %q", b, l, n, e, want)
		}
		if !bytes.Equal(all, was) {
			t.Fatal("what was handed in has changed")
		}
	}
	if again, e := tags.Put(table, want); e != api.OK || !bytes.Equal(again, b) {
		t.Fatalf("%q: % X, error %d, not % X", want, again, e, b)
	}
}

// getsNone fails, if tags are got of bytes, or there is another error.
func getsNone(t *testing.T, b []byte, want api.Errno) {
	t.Helper()
	if l, n, e := tags.Get(crc.Make(), b); e != want || n != 0 || len(l) > 0 {
		t.Fatalf("% X: %q, %d bytes, error %d, not %d", b[:min(len(b), 100)], l, n, e, want)
	}
	if l, n, e := tags.Get(nil, b); e != api.ErrNil || n != 0 || len(l) > 0 {
		t.Fatalf("% X, no table: %q, %d bytes, error %d", b[:min(len(b), 100)], l, n, e)
	}
}

// many are n tags with keys that are not alike.
func many(n int) []api.Tag {
	l := make([]api.Tag, n)
	for i := range l {
		l[i] = api.Tag{Key: "k" + string(rune('A'+i/26)) + "-" + string(rune('a'+i%26)), Value: strings.Repeat("v", i)}
	}
	return l
}

// The chapter's examples, and more by hand.
func TestExamples(t *testing.T) {
	if s := tags.Fold("Title"); s != "title" {
		t.Error(s)
	}
	if n := tags.Letters("né"); n != 2 {
		t.Error(n)
	}
	l := []api.Tag{{Key: "Title", Value: "né"}, {Key: "x", Value: ""}}
	want := summed([]byte{'T', 'G', 2, 5, 'T', 'i', 't', 'l', 'e', 3, 0, 'n', 0xC3, 0xA9, 1, 'x', 0, 0})
	checks(t, l, 0, api.OK)
	gets(t, want, l)
	gets(t, summed([]byte{'T', 'G', 0}), nil)
	if b, e := tags.Put(crc.Make(), nil); e != api.OK || len(b) != 7 {
		t.Errorf("% X, error %d", b, e)
	}
}

// P26.1: which bytes a key has, and how many.
func TestKeys(t *testing.T) {
	try := func(key string) {
		t.Helper()
		want := api.ErrTag
		if isKey(key) {
			want = api.OK
		}
		checks(t, []api.Tag{{Key: key}}, 0, want)
	}
	for c := range 256 {
		for _, ahead := range []string{"", "a", strings.Repeat("z", 31)} {
			try(ahead + string([]byte{byte(c)}))
			try(string([]byte{byte(c)}) + ahead)
		}
	}
	for n := range 300 {
		try(strings.Repeat("k", n))
	}
	for _, key := range []string{" ", "}", "~", "=", "a=b", "\x1F", "\x20", "\x7E", "\x7F", "\x80", "é", "\u0130", "\uFFFD", "\xFF", "a\x00", "A key, of {32} bytes; that's all!", "A key, of [33] bytes; one too many"} {
		try(key)
	}
	if !isKey("A key, of {32} bytes; that's all") || isKey("=") || isKey("") {
		t.Error("the model")
	}
	try(strings.Repeat("k", 1<<16))
}

// P26.1: of keys that are alike the second one is wrong.
func TestAlikeKeys(t *testing.T) {
	for _, c := range []struct {
		a, b string
		want bool
	}{
		{"title", "title", true}, {"Title", "tITLE", true}, {"AZ", "az", true}, {"aZ", "Az", true}, {"1", "1", true}, {"{", "{", true},
		{"title", "titles", false}, {"title", "titl", false}, {"title", " title", false}, {"title", "title ", false},
		{"@", "`", false}, {"[", "{", false}, {"\\", "|", false}, {"]", "}", false}, {"0", "P", false}, {"a", "b", false}, {"A", "b", false}, {"Z", "{", false}, {"@", "A", false},
	} {
		for _, l := range [][]api.Tag{{{Key: c.a}, {Key: c.b}}, {{Key: c.b}, {Key: c.a}}} {
			if !c.want {
				checks(t, l, 0, api.OK)
				continue
			}
			checks(t, l, 1, api.ErrTag)
			checks(t, []api.Tag{l[0], {Key: "other"}, l[1], {Key: "other"}}, 2, api.ErrTag)
			checks(t, []api.Tag{{Key: "other"}, l[0], l[1]}, 2, api.ErrTag)
		}
	}
	for a := 0x20; a <= 0x7D; a++ {
		for b := 0x20; b <= 0x7D; b++ {
			l := []api.Tag{{Key: string(rune(a))}, {Key: string(rune(b))}}
			place, want := checked(l)
			checks(t, l, place, want)
		}
	}
}

// tryValue fails, if a value is taken for another thing than it is.
func tryValue(t *testing.T, s string) {
	t.Helper()
	want := api.ErrText
	if isValue(s) {
		want = api.OK
	}
	if place, e := tags.Check([]api.Tag{{Key: "k", Value: s}}); place != 0 || e != want {
		t.Fatalf("% X: place %d, error %d, not %d", s, place, e, want)
	}
}

// P26.1: every letter, and what is none, in all ways in which bytes might lay it.
func TestValueLetters(t *testing.T) {
	for v := range mostLetter + 100 {
		if isLetter := v >= 0x20 && (v < 0xD800 || v > 0xDFFF) && v <= mostLetter; isValue(string(letterBytes(v))) != isLetter {
			t.Fatalf("the model, of %X", v)
		}
		tryValue(t, string(letterBytes(v)))
	}
	for v := range 1 << 11 {
		for n := 2; n <= 4; n++ {
			tryValue(t, string(spread(v, n)))
		}
	}
	for v := range 1 << 16 {
		tryValue(t, string(spread(v, 4)))
	}
	for v := 0x110000; v < 1<<21; v += 97 {
		tryValue(t, string(spread(v, 4)))
	}
}

// P26.1: all texts of two bytes, and some of three and four, whole and not.
func TestValueBytes(t *testing.T) {
	ends := []byte{0, 0x1F, 0x20, 0x7F, 0x80, 0x8F, 0x90, 0x9F, 0xA0, 0xBF, 0xC0, 0xC1, 0xC2, 0xDF, 0xE0, 0xEC, 0xED, 0xEE, 0xEF, 0xF0, 0xF1, 0xF3, 0xF4, 0xF5, 0xF7, 0xF8, 0xFB, 0xFC, 0xFE, 0xFF}
	for a := range 256 {
		tryValue(t, string([]byte{byte(a)}))
		for b := range 256 {
			two := []byte{byte(a), byte(b)}
			tryValue(t, string(two))
			if !slices.Contains(ends, byte(a)) || !slices.Contains(ends, byte(b)) {
				continue
			}
			for _, c := range ends {
				three := append(two, c)
				tryValue(t, string(three))
				for _, d := range ends {
					tryValue(t, string(append(three, d)))
				}
			}
		}
	}
	x := noise(1)
	for range 100000 {
		tryValue(t, x.text(6))
		tryValue(t, x.value(6))
	}
}

// P26.1: how many bytes a value has, not how many letters.
func TestValueLength(t *testing.T) {
	for _, letter := range []string{"v", "é", "€", "\U0001F3B5"} {
		for bytes := 1000; bytes <= 1100; bytes++ {
			s := strings.Repeat(letter, bytes/len(letter))
			s += strings.Repeat("v", bytes-len(s))
			want := api.OK
			if bytes > 1024 {
				want = api.ErrText
			}
			checks(t, []api.Tag{{Key: "k", Value: s}}, 0, want)
		}
	}
	checks(t, []api.Tag{{Key: "k", Value: strings.Repeat("v", 1<<17)}}, 0, api.ErrText)
	checks(t, []api.Tag{{Key: "k", Value: "\x7F\uFFFD"}}, 0, api.OK)
}

// P26.1: of several errors the first tag's, of its key ahead of its value; how many there are ahead of all.
func TestCheckOrder(t *testing.T) {
	noKey, noValue := api.Tag{Key: "=", Value: "v"}, api.Tag{Key: "w", Value: "\xFF"}
	neither, good := api.Tag{Value: "\n"}, api.Tag{Key: "good"}
	checks(t, nil, 0, api.OK)
	checks(t, []api.Tag{}, 0, api.OK)
	checks(t, []api.Tag{noKey, noValue}, 0, api.ErrTag)
	checks(t, []api.Tag{noValue, noKey}, 0, api.ErrText)
	checks(t, []api.Tag{good, noValue, noKey}, 1, api.ErrText)
	checks(t, []api.Tag{good, noKey, noValue}, 1, api.ErrTag)
	checks(t, []api.Tag{neither}, 0, api.ErrTag)
	checks(t, []api.Tag{good, {Key: "b"}, neither}, 2, api.ErrTag)
	checks(t, []api.Tag{good, {Key: "GOOD", Value: "\xFF"}}, 1, api.ErrTag)
	checks(t, []api.Tag{good, noValue, {Key: "good"}}, 1, api.ErrText)
	checks(t, []api.Tag{good, {Key: "good"}, noValue}, 1, api.ErrTag)
	// A key that is none is alike to none that matters: the first one is told.
	checks(t, []api.Tag{noKey, noKey}, 0, api.ErrTag)
	for n := 60; n < 70; n++ {
		l := many(n)
		if n <= 64 {
			checks(t, l, 0, api.OK)
			gets(t, bytesOf(l), l)
			l[n-1].Key = "KA-A"
			checks(t, l, n-1, api.ErrTag)
			l[n-1] = noValue
			checks(t, l, n-1, api.ErrText)
			continue
		}
		checks(t, l, 0, api.ErrLong)
		l[0] = neither
		checks(t, l, 0, api.ErrLong)
	}
	checks(t, make([]api.Tag, 65), 0, api.ErrLong)
	checks(t, make([]api.Tag, 64), 0, api.ErrTag)
	x := noise(2)
	for range 20000 {
		l := x.any(6)
		place, e := checked(l)
		checks(t, l, place, e)
	}
}

// P26.2: Fold, of every byte, alone and in whatever bytes.
func TestFold(t *testing.T) {
	try := func(s string) {
		t.Helper()
		want := []byte(s)
		for i := range want {
			want[i] = small(want[i])
		}
		if got := tags.Fold(s); got != string(want) {
			t.Fatalf("% X: % X, not % X", s, got, want)
		}
	}
	try("")
	try("The QUICK brown fox, 1234567890 @[`{")
	for c := range 256 {
		try(string([]byte{byte(c)}))
		try(string([]byte{'A', byte(c), 'Z'}))
		try(string([]byte{0xC3, byte(c)}))
	}
	for v := range mostLetter + 1 {
		// Among them letters that have small ones, but are none from A to Z.
		if s := string(letterBytes(v)); v > 0x7F && tags.Fold(s) != s {
			t.Fatalf("%X: %X", v, tags.Fold(s))
		}
	}
	x := noise(3)
	for range 5000 {
		try(x.text(20))
		try(string(x.bytes(x.next(30))))
	}
}

// P26.2: Find.
func TestFind(t *testing.T) {
	finds := func(l []api.Tag, key, want string, found bool) {
		t.Helper()
		if v, ok := tags.Find(l, key); v != want || ok != found {
			t.Fatalf("%q in %q: %q, %t, not %q, %t", key, l, v, ok, want, found)
		}
	}
	l := []api.Tag{{Key: "Title", Value: "one"}, {Key: "b", Value: ""}, {Key: "TITLE", Value: "two"}, {Key: "", Value: "none"}, {Key: "\xFFA", Value: "\n"}, {Key: "É", Value: "e"}}
	for _, key := range []string{"Title", "title", "TITLE", "tITLe"} {
		finds(l, key, "one", true)
		finds(l[1:], key, "two", true)
		finds(l[1:2], key, "", false)
	}
	finds(l, "b", "", true)
	finds(l, "B", "", true)
	finds(l, "", "none", true)
	finds(l, "\xFFa", "\n", true)
	finds(l, "\xFEa", "", false)
	finds(l, "\uFFFDa", "", false)
	finds(l, "É", "e", true)
	finds(l, "é", "", false)
	finds(l, "titl", "", false)
	finds(l, "titles", "", false)
	finds(nil, "a", "", false)
	finds(nil, "", "", false)
	x := noise(4)
	for range 20000 {
		l, key := x.any(6), x.key()
		want, found := "", false
		for _, o := range slices.Backward(l) {
			if isAlike(o.Key, key) {
				want, found = o.Value, true
			}
		}
		finds(l, key, want, found)
	}
}

// P26.2: Same.
func TestSame(t *testing.T) {
	is := func(a, b []api.Tag, want bool) {
		t.Helper()
		if tags.Same(a, b) != want || tags.Same(b, a) != want {
			t.Errorf("%q, %q: not %t", a, b, want)
		}
	}
	one, two := api.Tag{Key: "a", Value: "1"}, api.Tag{Key: "b", Value: "2"}
	is(nil, nil, true)
	is(nil, []api.Tag{}, true)
	is(nil, []api.Tag{{}}, false)
	is([]api.Tag{one, two}, []api.Tag{one, two}, true)
	is([]api.Tag{one, two}, []api.Tag{two, one}, false)
	is([]api.Tag{one, two}, []api.Tag{one}, false)
	is([]api.Tag{one, two}, []api.Tag{two}, false)
	is([]api.Tag{one, one}, []api.Tag{one}, false)
	is([]api.Tag{one}, []api.Tag{{Key: "A", Value: "1"}}, false)
	is([]api.Tag{one}, []api.Tag{{Key: "a", Value: "2"}}, false)
	is([]api.Tag{one}, []api.Tag{{Key: "a"}}, false)
	is([]api.Tag{{Key: "ab", Value: "c"}}, []api.Tag{{Key: "a", Value: "bc"}}, false)
	// Also such as may not be.
	is([]api.Tag{{Key: "=", Value: "\xFF"}}, []api.Tag{{Key: "=", Value: "\xFF"}}, true)
	is([]api.Tag{{Key: "=", Value: "\xFF"}}, []api.Tag{{Key: "=", Value: "\xFE"}}, false)
	is(many(100), many(100), true)
	is(many(100), many(99), false)
}

// sets fails, if other tags are set, or what is handed in changes, or is kept.
func sets(t *testing.T, l []api.Tag, x api.Tag) {
	t.Helper()
	was, want := slices.Clone(l), set(l, x)
	_, wantE := checked(want)
	if wantE != api.OK {
		want = nil
	}
	got, e := tags.Set(l, x)
	if e != wantE || !slices.Equal(got, want) {
		t.Fatalf("%q and %q: %q, error %d, not %q, %d", l, x, got, e, want, wantE)
	}
	clear(got)
	if !slices.Equal(l, was) {
		t.Fatal("what was handed in has changed")
	}
}

// drops fails, if other tags are left, or what is handed in changes, or is kept.
func drops(t *testing.T, l []api.Tag, key string) {
	t.Helper()
	was, want := slices.Clone(l), without(l, key)
	got := tags.Drop(l, key)
	if !slices.Equal(got, want) {
		t.Fatalf("%q without %q: %q, not %q", l, key, got, want)
	}
	clear(got)
	if !slices.Equal(l, was) {
		t.Fatal("what was handed in has changed")
	}
}

// P26.3: by hand.
func TestSetByHand(t *testing.T) {
	one, two, three := api.Tag{Key: "A", Value: "1"}, api.Tag{Key: "b", Value: "2"}, api.Tag{Key: "a", Value: "3"}
	is := func(l []api.Tag, x api.Tag, want ...api.Tag) {
		t.Helper()
		got, e := tags.Set(l, x)
		if e != api.OK || !slices.Equal(got, want) {
			t.Errorf("%q and %q: %q, error %d, not %q", l, x, got, e, want)
		}
		sets(t, l, x)
	}
	isNone := func(l []api.Tag, x api.Tag, want api.Errno) {
		t.Helper()
		if got, e := tags.Set(l, x); e != want || len(got) > 0 {
			t.Errorf("%q and %q: %q, error %d, not %d", l, x, got, e, want)
		}
		sets(t, l, x)
	}
	is(nil, one, one)
	is([]api.Tag{one}, two, one, two)
	is([]api.Tag{one, two}, three, three, two)
	is([]api.Tag{two, one}, three, two, three)
	is([]api.Tag{one, two}, one, one, two)
	is([]api.Tag{two}, api.Tag{Key: "B"}, api.Tag{Key: "B"})
	noKey, noValue := api.Tag{Key: "~"}, api.Tag{Key: "b", Value: "\x1F"}
	isNone(nil, api.Tag{}, api.ErrTag)
	isNone([]api.Tag{one}, noKey, api.ErrTag)
	isNone([]api.Tag{one}, noValue, api.ErrText)
	isNone([]api.Tag{two}, noValue, api.ErrText)
	// The first one alone becomes another one: the second one stays alike to it.
	isNone([]api.Tag{one, three}, one, api.ErrTag)
	isNone([]api.Tag{noKey}, one, api.ErrTag)
	isNone([]api.Tag{noValue}, noKey, api.ErrText)
	// A value that may not be is mended by its own key.
	is([]api.Tag{one, noValue}, two, one, two)
	isNone([]api.Tag{noKey, two}, noKey, api.ErrTag)
}

// P26.3: as many tags as may be.
func TestSetMany(t *testing.T) {
	full, more := many(64), api.Tag{Key: "more"}
	if got, e := tags.Set(full[:63], more); e != api.OK || len(got) != 64 || got[63] != more {
		t.Errorf("%d, error %d", len(got), e)
	}
	if got, e := tags.Set(full, more); e != api.ErrLong || len(got) > 0 {
		t.Errorf("%d, error %d", len(got), e)
	}
	for place := range full {
		sets(t, full, api.Tag{Key: tags.Fold(full[place].Key), Value: "other"})
		sets(t, full, api.Tag{Key: full[place].Key, Value: "\xFF"})
		drops(t, full, tags.Fold(full[place].Key))
	}
	sets(t, many(65), api.Tag{Key: full[0].Key})
	drops(t, many(65), full[0].Key)
	drops(t, many(65), "none")
}

// P26.3: tags of all kinds.
func TestSetAndDrop(t *testing.T) {
	x := noise(5)
	for range 20000 {
		l := x.any(6)
		sets(t, l, api.Tag{Key: x.key(), Value: x.value(3)})
		sets(t, l, api.Tag{Key: x.text(2), Value: x.text(3)})
		drops(t, l, x.key())
		drops(t, l, x.text(2))
		if len(l) > 0 {
			sets(t, l, api.Tag{Key: strings.ToUpper(l[x.next(len(l))].Key), Value: "v"})
			drops(t, l, strings.ToUpper(l[x.next(len(l))].Key))
		}
	}
	a, b := api.Tag{Key: "a", Value: "1"}, api.Tag{Key: "b"}
	for _, l := range [][]api.Tag{{a}, {a, a}, {a, b, a}, {a, a, b}, {b, a, a}, {b}, {}, nil} {
		drops(t, l, "A")
		drops(t, l, "")
		drops(t, l, "c")
	}
}

// P26.3: memory behind a list is not written into, and two answers are not one.
func TestNothingIsShared(t *testing.T) {
	behind := api.Tag{Key: "behind"}
	room := []api.Tag{{Key: "a"}, {Key: "b"}, behind}
	one, _ := tags.Set(room[:2], api.Tag{Key: "c"})
	two, _ := tags.Set(one, api.Tag{Key: "d"})
	three, _ := tags.Set(one, api.Tag{Key: "e"})
	if room[2] != behind || two[3].Key != "d" || three[3].Key != "e" {
		t.Errorf("%q, %q, %q", room, two, three)
	}
	all := tags.Drop(room, "none")
	all[0] = behind
	if room[0].Key != "a" {
		t.Error("what is left shares memory with what was handed in")
	}
	b := bytesOf([]api.Tag{{Key: "key", Value: "value"}})
	l, _, e := tags.Get(crc.Make(), b)
	clear(b)
	if e != api.OK || l[0] != (api.Tag{Key: "key", Value: "value"}) {
		t.Errorf("%q, error %d", l, e)
	}
}

// P26.8
func TestSetIsFound(t *testing.T) {
	x := noise(6)
	for range 5000 {
		l, set := x.tags(8), api.Tag{Key: x.key(), Value: x.value(5)}
		with, e := tags.Set(l, set)
		if e != api.OK {
			t.Fatalf("%q and %q: error %d", l, set, e)
		}
		for _, key := range []string{set.Key, tags.Fold(set.Key), strings.ToUpper(set.Key)} {
			if v, ok := tags.Find(with, key); v != set.Value || !ok {
				t.Fatalf("%q in %q: %q, %t", key, with, v, ok)
			}
			left := tags.Drop(with, key)
			if v, ok := tags.Find(left, set.Key); v != "" || ok {
				t.Fatalf("%q in %q: %q", key, left, v)
			}
			for _, o := range l {
				if v, ok := tags.Find(left, o.Key); ok == isAlike(o.Key, key) || ok && v != o.Value {
					t.Fatalf("%q in %q: %q, %t", o.Key, left, v, ok)
				}
			}
		}
	}
}

// P26.4: letters by hand; a byte that is part of none counts as one.
func TestLettersByHand(t *testing.T) {
	for s, want := range map[string]int{
		"": 0, "a": 1, "abc": 3, "né": 2, "€": 1, "\U0001F3B5": 1, "\x00": 1, "\n\n": 2, "\u0301e": 2,
		"\xFF": 1, "\xFF\xFF": 2, "\x80": 1, "\xC3": 1, "\xC3a": 2, "\xE2\x82": 2, "\xE2\x82a": 3, "\xE2a\xAC": 3, "\xF0\x9F\x8E": 3,
		"\xED\xA0\x80": 3, "\xED\x9F\xBF": 1, "\xEE\x80\x80": 1, "\xC0\x80": 2, "\xE0\x80\x80": 3, "\xF0\x80\x80\x80": 4,
		"\xF4\x8F\xBF\xBF": 1, "\xF4\x90\x80\x80": 4, "\xF5\x80\x80\x80": 4, "\xF8\x88\x80\x80\x80": 5, "\uFFFD": 1, "\uFFFD\xFF": 2,
	} {
		if n := tags.Letters(s); n != want {
			t.Errorf("% X: %d, not %d", s, n, want)
		}
	}
	for _, c := range []struct {
		s    string
		n    int
		want string
	}{
		{"né!", 0, ""}, {"né!", 1, "n"}, {"né!", 2, "né"}, {"né!", 3, "né!"}, {"né!", 4, "né!"}, {"né!", -1, ""}, {"", 1, ""}, {"", 0, ""}, {"", -1, ""},
		{"\xE2\x82a", 1, "\xE2"}, {"\xE2\x82a", 2, "\xE2\x82"}, {"\xE2\x82\xACa", 1, "€"}, {"\xFF\U0001F3B5\xFF", 2, "\xFF\U0001F3B5"},
	} {
		if s := tags.Cut(c.s, c.n); s != c.want {
			t.Errorf("% X, %d: % X, not % X", c.s, c.n, s, c.want)
		}
	}
}

// P26.4: of whatever bytes.
func TestLettersAndCut(t *testing.T) {
	try := func(s string) {
		t.Helper()
		l := pieces(s)
		if n := tags.Letters(s); n != len(l) {
			t.Fatalf("% X: %d letters, not %d", s, n, len(l))
		}
		for n := range len(l) + 1 {
			if got := tags.Cut(s, n); got != strings.Join(l[:n], "") {
				t.Fatalf("% X, %d: % X", s, n, got)
			}
		}
		for _, n := range []int{math.MinInt, -1 << 32, -1} {
			if got := tags.Cut(s, n); got != "" {
				t.Fatalf("% X, %d: % X", s, n, got)
			}
		}
		for _, n := range []int{len(l) + 1, len(s) + 1, 1 << 32, math.MaxInt} {
			if got := tags.Cut(s, n); got != s {
				t.Fatalf("% X, %d: % X", s, n, got)
			}
		}
	}
	x := noise(7)
	for range 20000 {
		try(x.text(12))
		try(x.value(12))
		try(string(x.bytes(x.next(12))))
	}
	for v := range mostLetter + 100 {
		if s := string(letterBytes(v)); tags.Letters(s) != len(pieces(s)) {
			t.Fatalf("%X: %d letters", v, tags.Letters(s))
		}
	}
	long := strings.Repeat("é", 1<<20)
	if tags.Letters(long) != 1<<20 || len(tags.Cut(long, 1<<19)) != 1<<20 {
		t.Error("a long text")
	}
}

// P26.5, P26.6, P26.7: tags of all kinds.
func TestPutAndGet(t *testing.T) {
	x := noise(8)
	for range 3000 {
		l := x.tags(10)
		checks(t, l, 0, api.OK)
		gets(t, bytesOf(l), l)
	}
	// The longest ones of all.
	l := many(64)
	for i := range l {
		l[i].Key += strings.Repeat("k", 32-len(l[i].Key))
		l[i].Value = strings.Repeat("\U0001F3B5", 256)
	}
	checks(t, l, 0, api.OK)
	gets(t, bytesOf(l), l)
}

// P26.6: bytes cut off anywhere.
func TestCutOff(t *testing.T) {
	for _, l := range [][]api.Tag{nil, {{Key: "k"}}, {{Key: "Title", Value: "né"}, {Key: "x", Value: strings.Repeat("v", 300)}}} {
		b := bytesOf(l)
		for n := range b {
			getsNone(t, b[:n], api.ErrEnd)
		}
	}
	getsNone(t, nil, api.ErrEnd)
	getsNone(t, []byte("TG"), api.ErrEnd)
	// As many as a byte tells, and as long as two tell.
	for n := 1; n < 256; n++ {
		getsNone(t, []byte{'T', 'G', byte(n)}, api.ErrEnd)
		getsNone(t, summed(laid(n, nil)), api.ErrEnd)
	}
	getsNone(t, []byte{'T', 'G', 1, 255, 'k'}, api.ErrEnd)
	getsNone(t, append([]byte{'T', 'G', 1, 1, 'k', 255, 255}, make([]byte, 65534)...), api.ErrEnd)
	getsNone(t, append([]byte{'T', 'G', 1, 1, 'k', 255, 255}, make([]byte, 65538)...), api.ErrEnd)
}

// P26.6: how bytes begin, as far as there are some.
func TestBegins(t *testing.T) {
	whole := bytesOf([]api.Tag{{Key: "k", Value: "v"}})
	for at := range 2 {
		for change := 1; change < 256; change++ {
			b := bytes.Clone(whole)
			b[at] ^= byte(change)
			for n := at + 1; n <= len(b); n++ {
				getsNone(t, b[:n], api.ErrKind)
			}
			getsNone(t, summed(b[:len(b)-4]), api.ErrKind)
		}
	}
	getsNone(t, []byte("G"), api.ErrKind)
	getsNone(t, []byte("tg"), api.ErrKind)
	getsNone(t, []byte("GT"), api.ErrKind)
}

// P26.6: each byte another one, each one missing, one more at each place.
func TestChangedBytes(t *testing.T) {
	l := []api.Tag{{Key: "Title", Value: "né"}, {Key: "xyz", Value: "vwxyz"}}
	whole := bytesOf(l)
	asTheWords := func(b []byte) api.Errno {
		t.Helper()
		want, wantN, wantE := taken(b, crc32.ChecksumIEEE)
		if l, n, e := tags.Get(crc.Make(), b); e != wantE || n != wantN || !slices.Equal(l, want) {
			t.Fatalf("% X: %q, %d bytes, error %d, not %q, %d, %d", b, l, n, e, want, wantN, wantE)
		}
		return wantE
	}
	for _, behind := range [][]byte{nil, make([]byte, 1000), whole} {
		for at := range whole {
			for change := 1; change < 256; change++ {
				b := slices.Concat(whole, behind)
				b[at] ^= byte(change)
				if asTheWords(b) == api.OK {
					t.Fatalf("got of % X", b)
				}
				// With the right sum such bytes are got, or refused by what is wrong with them.
				body := bytes.Clone(whole[:len(whole)-4])
				if at < len(body) {
					body[at] ^= byte(change)
				}
				asTheWords(slices.Concat(summed(body), behind))
			}
			asTheWords(slices.Concat(slices.Delete(bytes.Clone(whole), at, at+1), behind))
			asTheWords(slices.Concat(slices.Insert(bytes.Clone(whole), at, 7), behind))
		}
	}
	x := noise(9)
	for range 20000 {
		b := append([]byte("TG"), x.bytes(x.next(12))...)
		asTheWords(b)
		asTheWords(summed(b))
		asTheWords(x.bytes(x.next(5)))
		bad := x.any(4)
		asTheWords(bytesOf(bad))
		asTheWords(append(bytesOf(bad), x.bytes(3)...))
	}
}

// P26.6: bytes whose sum is right, of tags that are not; another sum goes ahead of that, missing bytes go ahead of both.
func TestGetWrongTags(t *testing.T) {
	for _, c := range []struct {
		l    []api.Tag
		want api.Errno
	}{
		{[]api.Tag{{}}, api.ErrTag},
		{[]api.Tag{{Key: "="}}, api.ErrTag},
		{[]api.Tag{{Key: strings.Repeat("k", 33)}}, api.ErrTag},
		{[]api.Tag{{Key: strings.Repeat("k", 255)}}, api.ErrTag},
		{[]api.Tag{{Key: "a"}, {Key: "A"}}, api.ErrTag},
		{[]api.Tag{{Key: "a", Value: "\xFF"}, {Key: "A"}}, api.ErrText},
		{[]api.Tag{{Key: "a", Value: "\xC0\x80"}}, api.ErrText},
		{[]api.Tag{{Key: "a", Value: strings.Repeat("v", 1025)}}, api.ErrText},
		{[]api.Tag{{Key: "a", Value: strings.Repeat("v", 65535)}}, api.ErrText},
		{[]api.Tag{{Key: "", Value: "\n"}}, api.ErrTag},
		{many(65), api.ErrLong},
		{many(255), api.ErrLong},
		{make([]api.Tag, 255), api.ErrLong},
	} {
		b := bytesOf(c.l)
		getsNone(t, b, c.want)
		getsNone(t, append(bytes.Clone(b), 0), c.want)
		getsNone(t, b[:len(b)-1], api.ErrEnd)
		for i := range 4 {
			other := bytes.Clone(b)
			other[len(b)-1-i] ^= 0x10
			getsNone(t, other, api.ErrSum)
		}
	}
}

// P26.5, P26.6: what another table's numbers say is the sum.
func TestOtherTables(t *testing.T) {
	noughts, wild := &crc.Table{}, &crc.Table{}
	x := noise(10)
	for i := range wild {
		wild[i] = uint32(x.next(1 << 32))
	}
	l := []api.Tag{{Key: "Title", Value: "né"}}
	for _, table := range []*crc.Table{noughts, wild} {
		body := laid(1, l)
		want := binary.LittleEndian.AppendUint32(bytes.Clone(body), table.Sum(body))
		if b, e := tags.Put(table, l); e != api.OK || !bytes.Equal(b, want) {
			t.Errorf("% X, error %d", b, e)
		}
		if got, n, e := tags.Get(table, want); e != api.OK || n != len(want) || !slices.Equal(got, l) {
			t.Errorf("%q, %d, error %d", got, n, e)
		}
		if _, _, e := tags.Get(table, bytesOf(l)); e != api.ErrSum {
			t.Errorf("error %d", e)
		}
	}
}
