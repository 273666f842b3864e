package text

import (
	"encoding/binary"
	"errors"
	"math"
	"slices"
	"strings"
	"testing"
	"unicode/utf16"

	"escritoire/api"
)

var orders = []int{api.Little, api.Big}

var wrongOrders = []int{math.MinInt, -1, 2, 3, 256, 1 << 32, math.MaxInt}

var wrongSigns = []int{math.MinInt, -0x10000, -1, 0xd800, 0xd801, 0xdbff, 0xdc00, 0xdc01, 0xdfff, 0x110000, 0x1fffff, math.MaxInt32, 1 << 32, 1<<32 + 'a', -1<<32 + 'a', math.MaxInt}

// edges are signs, their bytes, and their pairs, the greater byte of each first.
var edges = []struct {
	sign        int
	bytes, wide string
}{
	{0, "\x00", "\x00\x00"},
	{'a', "a", "\x00a"},
	{0x7f, "\x7f", "\x00\x7f"},
	{0x80, "\xc2\x80", "\x00\x80"},
	{0xe9, "\xc3\xa9", "\x00\xe9"},
	{0x7ff, "\xdf\xbf", "\x07\xff"},
	{0x800, "\xe0\xa0\x80", "\x08\x00"},
	{0xfff, "\xe0\xbf\xbf", "\x0f\xff"},
	{0x1000, "\xe1\x80\x80", "\x10\x00"},
	{0x20ac, "\xe2\x82\xac", "\x20\xac"},
	{0xd7ff, "\xed\x9f\xbf", "\xd7\xff"},
	{0xe000, "\xee\x80\x80", "\xe0\x00"},
	{0xfffd, "\xef\xbf\xbd", "\xff\xfd"},
	{0xffff, "\xef\xbf\xbf", "\xff\xff"},
	{0x10000, "\xf0\x90\x80\x80", "\xd8\x00\xdc\x00"},
	{0x103ff, "\xf0\x90\x8f\xbf", "\xd8\x00\xdf\xff"},
	{0x10400, "\xf0\x90\x90\x80", "\xd8\x01\xdc\x00"},
	{0x1f600, "\xf0\x9f\x98\x80", "\xd8\x3d\xde\x00"},
	{0x3ffff, "\xf0\xbf\xbf\xbf", "\xd8\xbf\xdf\xff"},
	{0x40000, "\xf1\x80\x80\x80", "\xd8\xc0\xdc\x00"},
	{0xfffff, "\xf3\xbf\xbf\xbf", "\xdb\xbf\xdf\xff"},
	{0x100000, "\xf4\x80\x80\x80", "\xdb\xc0\xdc\x00"},
	{0x10ffff, "\xf4\x8f\xbf\xbf", "\xdb\xff\xdf\xff"},
}

// placeless is the Errno of an error that has no At in it; -2, if it has one.
func placeless(err error) api.Errno {
	var at *api.At
	if errors.As(err, &at) {
		return -2
	}
	return api.Tell(err)
}

// placed is the Errno and the place of an error that has an At in it; -2, -2, if it has none.
func placed(err error) (api.Errno, int) {
	var at *api.At
	if !errors.As(err, &at) {
		return -2, -2
	}
	return at.Err, at.Place
}

// drawn goes through numbers that look drawn, the same each time.
func drawn(times int, do func(n uint64)) {
	n := uint64(11)
	for range times {
		n = n*6364136223846793005 + 1442695040888963407
		do(n ^ n>>29 ^ n<<31)
	}
}

// swapped is a text whose pairs of bytes are turned round.
func swapped(s string) string {
	b := []byte(s)
	for i := 0; i+1 < len(b); i += 2 {
		b[i], b[i+1] = b[i+1], b[i]
	}
	return string(b)
}

// ordered is a text whose pairs have their greater bytes first, in an order.
func ordered(s string, order int) string {
	if order == api.Big {
		return s
	}
	return swapped(s)
}

// allSigns are all signs there are.
func allSigns() []int {
	var l []int
	for n := range 0x110000 {
		if n < 0xd800 || n > 0xdfff {
			l = append(l, n)
		}
	}
	return l
}

// utf are all signs by their bytes, reckoned from the bits that UTF-8 has in each of them, and the beginnings of all of these.
type utf struct {
	signs  map[string]int
	begins map[string]int
}

func allBytes() utf {
	u := utf{map[string]int{}, map[string]int{}}
	for _, n := range allSigns() {
		var s string
		switch {
		case n < 1<<7:
			s = string([]byte{byte(n)})
		case n < 1<<11:
			s = string([]byte{0xc0 + byte(n>>6), tail(n)})
		case n < 1<<16:
			s = string([]byte{0xe0 + byte(n>>12), tail(n >> 6), tail(n)})
		default:
			s = string([]byte{0xf0 + byte(n>>18), tail(n >> 12), tail(n >> 6), tail(n)})
		}
		u.signs[s] = n
		for i := 1; i < len(s); i++ {
			u.begins[s[:i]]++
		}
	}
	return u
}

func tail(n int) byte {
	return 0x80 + byte(n&0x3f)
}

// decode is Decode, by all there is.
func (u utf) decode(s string) (signs, sizes []int) {
	for s != "" {
		sign, size := 0xfffd, 1
		for i := 1; i <= len(s) && i <= 4; i++ {
			if n, ok := u.signs[s[:i]]; ok {
				sign, size = n, i
				break
			}
			if u.begins[s[:i]] > 0 {
				size = i
			}
		}
		signs = append(signs, sign)
		sizes = append(sizes, size)
		s = s[size:]
	}
	return signs, sizes
}

// decodes holds what Decode answers against signs and sizes.
func decodes(t *testing.T, s string, signs, sizes []int) {
	t.Helper()
	l, n := Decode(s)
	if !slices.Equal(l, signs) || !slices.Equal(n, sizes) {
		t.Errorf("Decode(%q) = %x, %d, want %x, %d", s, l, n, signs, sizes)
	}
}

// narrows holds what Narrow answers, of pairs whose greater byte is first, against signs, in both orders.
func narrows(t *testing.T, s string, want []int) {
	t.Helper()
	for _, order := range orders {
		got, err := Narrow(ordered(s, order), order)
		if err != nil || !slices.Equal(got, want) {
			t.Errorf("Narrow(%q, %d) = %x, %v, want %x", ordered(s, order), order, got, err, want)
		}
	}
}

// 6.1: signs of one to four bytes, alone, and behind each other.
func TestBytesOfSigns(t *testing.T) {
	for _, a := range edges {
		decodes(t, a.bytes, []int{a.sign}, []int{len(a.bytes)})
		if s, err := Encode([]int{a.sign}); s != a.bytes || err != nil {
			t.Errorf("Encode(%x) = %q, %v", a.sign, s, err)
		}
		for _, b := range edges {
			decodes(t, a.bytes+b.bytes, []int{a.sign, b.sign}, []int{len(a.bytes), len(b.bytes)})
			if s, err := Encode([]int{a.sign, b.sign}); s != a.bytes+b.bytes || err != nil {
				t.Errorf("Encode(%x, %x) = %q, %v", a.sign, b.sign, s, err)
			}
		}
	}
}

// 6.1: all signs there are, there and back, as the library has them.
func TestAllSigns(t *testing.T) {
	all := allSigns()
	var b strings.Builder
	for _, n := range all {
		b.WriteRune(rune(n))
	}
	s, err := Encode(all)
	if err != nil || s != b.String() {
		t.Fatalf("Encode of all signs: %v, %d bytes, want %d", err, len(s), b.Len())
	}
	signs, sizes := Decode(s)
	if !slices.Equal(signs, all) || len(sizes) != len(all) {
		t.Fatalf("Decode of all signs: %d signs, %d sizes", len(signs), len(sizes))
	}
	for i, n := range sizes {
		if n != len(string(rune(all[i]))) {
			t.Fatalf("Decode: %x has %d bytes", all[i], n)
		}
	}
}

// 6.1: a sign that is broken off behind each of its bytes is one fffd, at the end, and ahead of another sign.
func TestBrokenOff(t *testing.T) {
	for _, a := range edges {
		for i := 1; i < len(a.bytes); i++ {
			begun := a.bytes[:i]
			decodes(t, begun, []int{0xfffd}, []int{i})
			decodes(t, "a"+begun, []int{'a', 0xfffd}, []int{1, i})
			for _, b := range edges {
				decodes(t, begun+b.bytes, []int{0xfffd, b.sign}, []int{i, len(b.bytes)})
				for j := 1; j < len(b.bytes); j++ {
					decodes(t, begun+b.bytes[:j], []int{0xfffd, 0xfffd}, []int{i, j})
				}
			}
		}
	}
}

// 6.1: bytes that begin no sign are an fffd each, wherever they stand.
func TestBytesThatBeginNone(t *testing.T) {
	for c := 0x80; c < 0x100; c++ {
		if c >= 0xc2 && c <= 0xf4 {
			continue
		}
		s := string([]byte{byte(c)})
		decodes(t, s, []int{0xfffd}, []int{1})
		decodes(t, s+s, []int{0xfffd, 0xfffd}, []int{1, 1})
		for _, a := range edges {
			decodes(t, s+a.bytes, []int{0xfffd, a.sign}, []int{1, len(a.bytes)})
			decodes(t, a.bytes+s, []int{a.sign, 0xfffd}, []int{len(a.bytes), 1})
		}
	}
}

// 6.1: bytes as of signs that are none: too long ones, halves, and what is above the greatest sign.
func TestBytesOfNoSign(t *testing.T) {
	for _, s := range []string{
		"\xc0\x80", "\xc1\xbf", "\xe0\x80\x80", "\xe0\x9f\xbf", "\xed\xa0\x80", "\xed\xaf\xbf", "\xed\xb0\x80", "\xed\xbf\xbf",
		"\xf0\x80\x80\x80", "\xf0\x8f\xbf\xbf", "\xf4\x90\x80\x80", "\xf5\x80\x80\x80", "\xf7\xbf\xbf\xbf", "\xf8\x88\x80\x80\x80", "\xfc\x84\x80\x80\x80\x80",
	} {
		decodes(t, s, slices.Repeat([]int{0xfffd}, len(s)), slices.Repeat([]int{1}, len(s)))
	}
	decodes(t, "\xe2\x82\xe2\x82\xac\xac", []int{0xfffd, 0x20ac, 0xfffd}, []int{2, 3, 1})
	decodes(t, "\xf0\x9f\x98\xed\xa0", []int{0xfffd, 0xfffd, 0xfffd}, []int{3, 1, 1})
	decodes(t, "\xf1\x80\x80\xc0\x80a", []int{0xfffd, 0xfffd, 0xfffd, 'a'}, []int{3, 1, 1, 1})
}

// 6.1: Decode is what all signs' bytes, and their beginnings, say: of all texts of up to two bytes, of longer ones of bytes at which something begins or ends, and of some that are drawn.
func TestDecodeByAllBytes(t *testing.T) {
	u := allBytes()
	check := func(s string) {
		t.Helper()
		signs, sizes := u.decode(s)
		decodes(t, s, signs, sizes)
	}
	check("")
	for a := range 256 {
		check(string([]byte{byte(a)}))
		for b := range 256 {
			check(string([]byte{byte(a), byte(b)}))
		}
	}
	at := []byte("\x00\x7f\x80\x8f\x90\x9f\xa0\xbf\xc0\xc1\xc2\xdf\xe0\xe1\xed\xef\xf0\xf1\xf4\xf5\xff")
	for _, a := range at {
		for _, b := range at {
			for _, c := range at {
				check(string([]byte{a, b, c}))
				for _, d := range at {
					check(string([]byte{a, b, c, d}))
				}
			}
		}
	}
	drawn(3000, func(n uint64) {
		var s []byte
		for range 12 {
			s = append(s, at[n%uint64(len(at))])
			n /= uint64(len(at))
		}
		check(string(s))
	})
}

// 6.1: each byte is one sign's.
func TestSizesCoverAll(t *testing.T) {
	drawn(3000, func(n uint64) {
		s := string(binary.BigEndian.AppendUint64(nil, n))
		signs, sizes := Decode(s)
		at := 0
		for i, size := range sizes {
			at += size
			if size < 1 || size > 4 || signs[i] != 0xfffd && string(rune(signs[i])) != s[at-size:at] {
				t.Fatalf("Decode(%q) = %x, %d", s, signs, sizes)
			}
		}
		if len(signs) != len(sizes) || at != len(s) {
			t.Fatalf("Decode(%q) = %x, %d", s, signs, sizes)
		}
	})
}

// 6.1, 6.2: of the empty text, and of no signs, nothing comes out.
func TestEmpty(t *testing.T) {
	if signs, sizes := Decode(""); len(signs) != 0 || len(sizes) != 0 {
		t.Errorf("Decode of nothing: %x, %d", signs, sizes)
	}
	for _, l := range [][]int{nil, {}} {
		if s, err := Encode(l); s != "" || err != nil {
			t.Errorf("Encode of nothing: %q, %v", s, err)
		}
		for _, order := range orders {
			if s, err := Wide(l, order); s != "" || err != nil {
				t.Errorf("Wide of nothing: %q, %v", s, err)
			}
		}
	}
	for _, order := range orders {
		if l, err := Narrow("", order); len(l) != 0 || err != nil {
			t.Errorf("Narrow of nothing: %x, %v", l, err)
		}
	}
	if s := Shown(""); s != "" {
		t.Errorf("Shown of nothing: %q", s)
	}
}

// 6.1, 6.2: the first number that is no sign is told, with its place, and nothing else.
func TestNumbersThatAreNoSigns(t *testing.T) {
	check := func(l []int, place int) {
		t.Helper()
		s, err := Encode(l)
		if e, at := placed(err); e != api.ErrArg || at != place || s != "" {
			t.Errorf("Encode(%x) = %q, %v at %d, want a place %d", l, s, err, at, place)
		}
		for _, order := range orders {
			s, err := Wide(l, order)
			if e, at := placed(err); e != api.ErrArg || at != place || s != "" {
				t.Errorf("Wide(%x, %d) = %q, %v at %d, want a place %d", l, order, s, err, at, place)
			}
		}
	}
	for _, wrong := range wrongSigns {
		check([]int{wrong}, 0)
		check([]int{wrong, 'a'}, 0)
		check([]int{'a', wrong}, 1)
		// Places are of numbers, not of bytes or pairs.
		check([]int{0x10ffff, 0x20ac, 0, wrong, 'a'}, 3)
		for _, other := range wrongSigns {
			check([]int{wrong, other}, 0)
			check([]int{0xd7ff, 0xe000, wrong, other, wrong}, 2)
		}
	}
	for n := 0xd800; n <= 0xdfff; n++ {
		check([]int{0, n}, 1)
	}
	// Halves that would be a sign are none here.
	check([]int{0xd83d, 0xde00}, 0)
}

// 6.2: signs of one and of two halves, alone, and behind each other.
func TestPairsOfSigns(t *testing.T) {
	for _, a := range edges {
		narrows(t, a.wide, []int{a.sign})
		for _, order := range orders {
			if s, err := Wide([]int{a.sign}, order); s != ordered(a.wide, order) || err != nil {
				t.Errorf("Wide(%x, %d) = %q, %v", a.sign, order, s, err)
			}
		}
		for _, b := range edges {
			narrows(t, a.wide+b.wide, []int{a.sign, b.sign})
			for _, order := range orders {
				if s, err := Wide([]int{a.sign, b.sign}, order); s != ordered(a.wide+b.wide, order) || err != nil {
					t.Errorf("Wide(%x, %x, %d) = %q, %v", a.sign, b.sign, order, s, err)
				}
			}
		}
	}
}

// 6.2: all signs there are, there and back, as the library has them.
func TestAllSignsWide(t *testing.T) {
	all := allSigns()
	var runes []rune
	for _, n := range all {
		runes = append(runes, rune(n))
	}
	var big, little []byte
	for _, half := range utf16.Encode(runes) {
		big = binary.BigEndian.AppendUint16(big, half)
		little = binary.LittleEndian.AppendUint16(little, half)
	}
	for order, want := range map[int]string{api.Big: string(big), api.Little: string(little)} {
		s, err := Wide(all, order)
		if err != nil || s != want {
			t.Fatalf("Wide of all signs, %d: %v, %d bytes, want %d", order, err, len(s), len(want))
		}
		back, err := Narrow(s, order)
		if err != nil || !slices.Equal(back, all) {
			t.Fatalf("Narrow of all signs, %d: %v, %d signs", order, err, len(back))
		}
	}
}

// 6.2: halves that stand alone, at the beginning, between signs, and at the end; and a byte that is left over.
func TestHalvesAlone(t *testing.T) {
	firsts := []string{"\xd8\x00", "\xd8\x3d", "\xdb\xff"}
	seconds := []string{"\xdc\x00", "\xde\x00", "\xdf\xff"}
	for _, half := range slices.Concat(firsts, seconds) {
		narrows(t, half, []int{0xfffd})
		narrows(t, half+half, []int{0xfffd, 0xfffd})
		narrows(t, "\x00a"+half, []int{'a', 0xfffd})
		narrows(t, half+"\x00a", []int{0xfffd, 'a'})
		narrows(t, half+"a", []int{0xfffd, 0xfffd})
		for _, a := range edges {
			narrows(t, a.wide+half, []int{a.sign, 0xfffd})
			if len(a.wide) == 2 {
				narrows(t, half+a.wide, []int{0xfffd, a.sign})
			}
		}
	}
	for _, a := range firsts {
		for _, b := range seconds {
			// Either is told, where it stands the wrong way round.
			narrows(t, b+a, []int{0xfffd, 0xfffd})
			// The half right ahead of the second one is the one that is taken.
			sign := int(utf16.DecodeRune(rune(a[0])<<8|rune(a[1]), rune(b[0])<<8|rune(b[1])))
			narrows(t, a+b, []int{sign})
			narrows(t, a+a+b, []int{0xfffd, sign})
			narrows(t, a+b+b, []int{sign, 0xfffd})
			narrows(t, a+b+a, []int{sign, 0xfffd})
			// No second half comes of a byte alone.
			narrows(t, a+b[:1], []int{0xfffd, 0xfffd})
			narrows(t, a+b+"\x00", []int{sign, 0xfffd})
		}
	}
	for c := range 256 {
		s := string([]byte{byte(c)})
		narrows(t, s, []int{0xfffd})
		narrows(t, "\x00a"+s, []int{'a', 0xfffd})
		narrows(t, "\xd8\x00"+s, []int{0xfffd, 0xfffd})
	}
}

// 6.2: Narrow is what the library has, of every pair of bytes ahead of and behind every kind of pair, and of some texts that are drawn.
func TestNarrowAsTheLibrary(t *testing.T) {
	check := func(l ...uint16) {
		t.Helper()
		var s []byte
		for _, n := range l {
			s = binary.BigEndian.AppendUint16(s, n)
		}
		var want []int
		for _, r := range utf16.Decode(l) {
			want = append(want, int(r))
		}
		narrows(t, string(s), want)
	}
	kinds := []uint16{0, 'a', 0xd7ff, 0xd800, 0xdbff, 0xdc00, 0xdfff, 0xe000, 0xfffd, 0xffff}
	for n := range 0x10000 {
		check(uint16(n))
		for _, k := range kinds {
			check(uint16(n), k)
			check(k, uint16(n))
		}
	}
	drawn(3000, func(n uint64) {
		var l []uint16
		for range 10 {
			l = append(l, kinds[n%10])
			n /= 10
		}
		check(l...)
	})
}

// 6.2: an order that is none is told ahead of all else, without a place.
func TestOrdersThatAreNone(t *testing.T) {
	for _, order := range wrongOrders {
		for _, l := range [][]int{nil, {'a'}, {0x10ffff, 0}, {-1}, {'a', 0xd800}, {0x110000}} {
			if s, err := Wide(l, order); s != "" || placeless(err) != api.ErrArg {
				t.Errorf("Wide(%x, %d) = %q, %v", l, order, s, err)
			}
		}
		for _, s := range []string{"", "a", "\x00a", "\xd8\x00", "\x00a\x00"} {
			if l, err := Narrow(s, order); l != nil || placeless(err) != api.ErrArg {
				t.Errorf("Narrow(%q, %d) = %x, %v", s, order, l, err)
			}
		}
	}
}

// 6.3: bytes from blank to ~ as they are, a point for each other one.
func TestShown(t *testing.T) {
	for _, x := range []struct{ s, want string }{
		{"\x1f ", ". "},
		{"~\x7f", "~."},
		{"a.b", "a.b"},
		{"\x00\t\n\r\x80\xff", "......"},
		{"\xe2\x82\xac\xc3\xa9", "....."},
		{" !\"#$%&'()*+,-./09:;<=>?@AZ[\\]^_`az{|}~", " !\"#$%&'()*+,-./09:;<=>?@AZ[\\]^_`az{|}~"},
	} {
		if got := Shown(x.s); got != x.want {
			t.Errorf("Shown(%q) = %q, want %q", x.s, got, x.want)
		}
	}
	for c := range 256 {
		want := "."
		if strings.Contains(" !\"#$%&'()*+,-./0123456789:;<=>?@ABCDEFGHIJKLMNOPQRSTUVWXYZ[\\]^_`abcdefghijklmnopqrstuvwxyz{|}~", string([]byte{byte(c)})) {
			want = string([]byte{byte(c)})
		}
		if got := Shown("x" + string([]byte{byte(c)})); got != "x"+want {
			t.Errorf("Shown of %x = %q", c, got)
		}
	}
}

// P4: lists that are handed in stay as they are, with what stands behind them; the two lists that come out share nothing.
func TestLists(t *testing.T) {
	l := []int{'a', 0x1f600, 0x20ac, 7, 8, 9}
	was := slices.Clone(l)
	for _, order := range orders {
		if _, err := Encode(l[:3]); err != nil {
			t.Error(err)
		}
		if _, err := Wide(l[:3], order); err != nil {
			t.Error(err)
		}
	}
	if !slices.Equal(l, was) {
		t.Errorf("what was handed in is %x now", l)
	}
	signs, sizes := Decode("ab\xe2")
	for i := range signs[:cap(signs)] {
		signs[:cap(signs)][i] = -7
	}
	if !slices.Equal(sizes, []int{1, 1, 1}) {
		t.Errorf("sizes are %d now", sizes)
	}
	decodes(t, "ab\xe2", []int{'a', 'b', 0xfffd}, []int{1, 1, 1})
}
