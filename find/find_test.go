package find

import (
	"errors"
	"fmt"
	"math"
	"slices"
	"strings"
	"testing"

	"escritoire/api"
)

// ends are the least and the greatest numbers that there are, and those beside them.
var ends = []int{math.MinInt, math.MinInt + 1, math.MaxInt - 1, math.MaxInt}

// drawn is numbers that look drawn, the same each time.
type drawn uint64

func (d *drawn) below(most int) int {
	*d = *d*6364136223846793005 + 1442695040888963407
	return int(uint64(*d>>33) % uint64(most))
}

// text is up to so many bytes, each of them one of kinds.
func (d *drawn) text(most int, kinds string) string {
	b := make([]byte, d.below(most+1))
	for i := range b {
		b[i] = kinds[d.below(len(kinds))]
	}
	return string(b)
}

// texts goes through all texts of up to so many bytes, each of them one of kinds.
func texts(most int, kinds string, do func(s string)) {
	do("")
	if most == 0 {
		return
	}
	texts(most-1, kinds, func(s string) {
		for i := range len(kinds) {
			if len(s) == most-1 {
				do(s + kinds[i:i+1])
			}
		}
		if s != "" {
			do(s)
		}
	})
}

// errno is the Errno of an error that has no place; -2, if it has one.
func errno(err error) api.Errno {
	var a *api.At
	if errors.As(err, &a) {
		return -2
	}
	return api.Tell(err)
}

// same holds a list, and its error, against what is wanted; beside an error there is nothing.
func same[T comparable](t *testing.T, what string, got []T, err error, want []T, wrong api.Errno) {
	t.Helper()
	if errno(err) != wrong {
		t.Errorf("%s: error %v, want %v", what, err, wrong)
	}
	if !slices.Equal(got, want) || wrong != api.OK && got != nil {
		t.Errorf("%s = %v, want %v", what, got, want)
	}
}

// number holds a number, and its error, against what is wanted; beside an error it is 0.
func number(t *testing.T, what string, got int, err error, want int, wrong api.Errno) {
	t.Helper()
	if got != want || errno(err) != wrong {
		t.Errorf("%s = %d, %v; want %d, %v", what, got, err, want, wrong)
	}
}

// stands says whether a pattern stands at a place, byte by byte.
func stands(s, p string, at int) bool {
	return at >= 0 && at+len(p) <= len(s) && s[at:at+len(p)] == p
}

// places are all places of a text at which it is so.
func places(s string, so func(at int) bool) []int {
	var l []int
	for at := range len(s) {
		if so(at) {
			l = append(l, at)
		}
	}
	return l
}

// bordersOf is Borders, as the words tell it.
func bordersOf(p string) []int {
	var l []int
	for n := 1; n <= len(p); n++ {
		longest := 0
		for k := range n {
			if p[:k] == p[n-k:n] {
				longest = k
			}
		}
		l = append(l, longest)
	}
	return l
}

// round is Next, or Prev, of rising places, as the words tell it; -1: of none.
func round(l []int, from int, back bool) int {
	if len(l) == 0 {
		return -1
	}
	next, prev := l[0], l[len(l)-1]
	for i, at := range l {
		if at < from {
			prev = at
		}
		if at >= from && (i == 0 || l[i-1] < from) {
			next = at
		}
	}
	if back {
		return prev
	}
	return next
}

// like says whether a mask is so at a place, half by half.
func like(s string, m Mask, at int) bool {
	if at+len(m)/2 > len(s) {
		return false
	}
	for i, half := range m {
		is := int(s[at+i/2] >> 4)
		if i%2 == 1 {
			is = int(s[at+i/2] & 15)
		}
		if half >= 0 && half != is {
			return false
		}
	}
	return true
}

// matches are Any, as the words tell it.
func matches(s string, ps []string) []api.Match {
	var l []api.Match
	for at := range len(s) {
		for which, p := range ps {
			if stands(s, p, at) {
				l = append(l, api.Match{At: at, Which: which})
			}
		}
	}
	return l
}

// pairs are matches of numbers: where each one is, and which one.
func pairs(n ...int) []api.Match {
	var l []api.Match
	for i := 0; i < len(n); i += 2 {
		l = append(l, api.Match{At: n[i], Which: n[i+1]})
	}
	return l
}

// 9.1: Borders, of numbers that are told here.
func TestBorders(t *testing.T) {
	for _, x := range []struct {
		p    string
		want []int
	}{
		{"", nil},
		{"a", []int{0}},
		{"\xff", []int{0}},
		{"ab", []int{0, 0}},
		{"aa", []int{0, 1}},
		{"aaaa", []int{0, 1, 2, 3}},
		{"abab", []int{0, 0, 1, 2}},
		{"aabaaab", []int{0, 1, 0, 1, 2, 2, 3}},
		{"abcabcd", []int{0, 0, 0, 1, 2, 3, 0}},
		{"abacabab", []int{0, 0, 1, 0, 1, 2, 3, 2}},
		{"aabaabaaa", []int{0, 1, 0, 1, 2, 3, 4, 5, 2}},
		{"\x80\x00\x80\x00\xff", []int{0, 0, 1, 2, 0}},
		{"\xff\x7f\xff\xff", []int{0, 0, 1, 1}},
	} {
		same(t, fmt.Sprintf("Borders(%q)", x.p), Borders(x.p), nil, x.want, api.OK)
	}
}

// 9.1: Borders of all short patterns, and of longer ones that are drawn, held against texts that are tried one by one.
func TestBordersOneByOne(t *testing.T) {
	check := func(p string) {
		same(t, fmt.Sprintf("Borders(%q)", p), Borders(p), nil, bordersOf(p), api.OK)
	}
	texts(10, "ab", check)
	texts(6, "a\x00\xff", check)
	d := drawn(2)
	for range 300 {
		check(d.text(60, "aaab"))
	}
}

// 9.1: All, of places that are told here.
func TestAll(t *testing.T) {
	for _, x := range []struct {
		s, p string
		want []int
	}{
		// Once, several times, one over another, right behind one another, and nowhere.
		{"hello", "ell", []int{1}},
		{"banana", "an", []int{1, 3}},
		{"banana", "ana", []int{1, 3}},
		{"abababa", "aba", []int{0, 2, 4}},
		{"abcabcabc", "abc", []int{0, 3, 6}},
		{"aaaa", "a", []int{0, 1, 2, 3}},
		{"aaaa", "aa", []int{0, 1, 2}},
		{"aaaa", "aaaa", []int{0}},
		{"banana", "nab", nil},
		{"banana", "x", nil},
		// It begins, and goes on otherwise, within what looks like it.
		{"aabaabaaab", "aaab", []int{6}},
		{"abcabcabd", "abcabd", []int{3}},
		{"aaaaab", "aab", []int{3}},
		{"ababacababac", "ababac", []int{0, 6}},
		// At the beginning, at the very end, all of it, and cut off there.
		{"abc", "a", []int{0}},
		{"abc", "c", []int{2}},
		{"abc", "bc", []int{1}},
		{"abc", "abc", []int{0}},
		{"abc", "abd", nil},
		{"abc", "cd", nil},
		{"abc", "abcd", nil},
		{"abc", "abcabc", nil},
		{"", "a", nil},
		{"", "abc", nil},
		// Bytes that are no letters, and those of signs of several bytes.
		{"\x00\x00\xff\x00", "\x00", []int{0, 1, 3}},
		{"\xff\xfe\xff\xff", "\xff\xff", []int{2}},
		{"\x80\x7f\x80", "\x80", []int{0, 2}},
		{"aéé", "\xa9", []int{2, 4}},
		{"aéé", "é", []int{1, 3}},
		{"Aa", "a", []int{1}},
	} {
		l, err := All(x.s, x.p)
		same(t, fmt.Sprintf("All(%q, %q)", x.s, x.p), l, err, x.want, api.OK)
	}
}

// 9.1: All, Next and Prev of an empty pattern: ErrArg, also in an empty text, wherever one begins.
func TestNoPattern(t *testing.T) {
	for _, s := range []string{"", "a", "abc"} {
		l, err := All(s, "")
		same(t, fmt.Sprintf("All(%q, no pattern)", s), l, err, nil, api.ErrArg)
		for _, from := range append([]int{-1, 0, 1, 3, 4}, ends...) {
			n, err := Next(s, "", from)
			number(t, fmt.Sprintf("Next(%q, no pattern, %d)", s, from), n, err, 0, api.ErrArg)
			n, err = Prev(s, "", from)
			number(t, fmt.Sprintf("Prev(%q, no pattern, %d)", s, from), n, err, 0, api.ErrArg)
		}
	}
}

// 9.1: Next and Prev of a pattern that stands nowhere: ErrNone, wherever one begins.
func TestNowhere(t *testing.T) {
	for _, x := range []struct{ s, p string }{{"", "a"}, {"abc", "x"}, {"abc", "abcd"}, {"abc", "ca"}, {"aaa", "aab"}} {
		for _, from := range append([]int{-1, 0, 1, 2, 3, 4}, ends...) {
			n, err := Next(x.s, x.p, from)
			number(t, fmt.Sprintf("Next(%q, %q, %d)", x.s, x.p, from), n, err, 0, api.ErrNone)
			n, err = Prev(x.s, x.p, from)
			number(t, fmt.Sprintf("Prev(%q, %q, %d)", x.s, x.p, from), n, err, 0, api.ErrNone)
		}
	}
}

// 9.1: Next and Prev: from below 0, 0, at a place, right behind it, at the end and beyond.
func TestNextAndPrev(t *testing.T) {
	for _, x := range []struct {
		s, p             string
		from, next, prev int
	}{
		// "an" stands at 1 and 3.
		{"banana", "an", math.MinInt, 1, 3},
		{"banana", "an", -7, 1, 3},
		{"banana", "an", -1, 1, 3},
		{"banana", "an", 0, 1, 3},
		{"banana", "an", 1, 1, 3},
		{"banana", "an", 2, 3, 1},
		{"banana", "an", 3, 3, 1},
		{"banana", "an", 4, 1, 3},
		{"banana", "an", 5, 1, 3},
		{"banana", "an", 6, 1, 3},
		{"banana", "an", 7, 1, 3},
		{"banana", "an", math.MaxInt, 1, 3},
		// At the beginning, in the middle, and at the very end.
		{"abcabca", "a", math.MinInt, 0, 6},
		{"abcabca", "a", -1, 0, 6},
		{"abcabca", "a", 0, 0, 6},
		{"abcabca", "a", 1, 3, 0},
		{"abcabca", "a", 2, 3, 0},
		{"abcabca", "a", 3, 3, 0},
		{"abcabca", "a", 4, 6, 3},
		{"abcabca", "a", 6, 6, 3},
		{"abcabca", "a", 7, 0, 6},
		{"abcabca", "a", math.MaxInt, 0, 6},
		// One over another.
		{"aaaa", "aa", 0, 0, 2},
		{"aaaa", "aa", 1, 1, 0},
		{"aaaa", "aa", 2, 2, 1},
		{"aaaa", "aa", 3, 0, 2},
		// Just one: always there again.
		{"abc", "abc", math.MinInt, 0, 0},
		{"abc", "abc", 0, 0, 0},
		{"abc", "abc", 1, 0, 0},
		{"abc", "abc", math.MaxInt, 0, 0},
		{"xy\xff", "\xff", 2, 2, 2},
		{"xy\xff", "\xff", 3, 2, 2},
	} {
		n, err := Next(x.s, x.p, x.from)
		number(t, fmt.Sprintf("Next(%q, %q, %d)", x.s, x.p, x.from), n, err, x.next, api.OK)
		n, err = Prev(x.s, x.p, x.from)
		number(t, fmt.Sprintf("Prev(%q, %q, %d)", x.s, x.p, x.from), n, err, x.prev, api.OK)
	}
}

// 9.1: All, Next and Prev of all short texts and patterns, and of longer ones that are drawn, held against places that are looked at one by one.
func TestPlacesOneByOne(t *testing.T) {
	check := func(s, p string) {
		if p == "" {
			return
		}
		want := places(s, func(at int) bool { return stands(s, p, at) })
		l, err := All(s, p)
		same(t, fmt.Sprintf("All(%q, %q)", s, p), l, err, want, api.OK)
		wrong := api.OK
		if len(want) == 0 {
			wrong = api.ErrNone
		}
		for from := -2; from <= len(s)+2; from++ {
			n, err := Next(s, p, from)
			number(t, fmt.Sprintf("Next(%q, %q, %d)", s, p, from), n, err, max(round(want, from, false), 0), wrong)
			n, err = Prev(s, p, from)
			number(t, fmt.Sprintf("Prev(%q, %q, %d)", s, p, from), n, err, max(round(want, from, true), 0), wrong)
		}
	}
	texts(7, "ab", func(s string) {
		texts(4, "ab", func(p string) { check(s, p) })
	})
	d := drawn(5)
	for range 2000 {
		check(d.text(60, "aab\xff"), d.text(6, "aab\xff"))
	}
}

// 9.2: Read: digits, ?, and blanks where a byte begins: ahead of the first one, between, doubled, and behind the last one.
func TestRead(t *testing.T) {
	for _, x := range []struct {
		s    string
		want Mask
	}{
		{"00", Mask{0, 0}},
		{"4a", Mask{4, 10}},
		{"f0", Mask{15, 0}},
		{"??", Mask{-1, -1}},
		{"?4", Mask{-1, 4}},
		{"4?", Mask{4, -1}},
		{"4a4b", Mask{4, 10, 4, 11}},
		{"4a 4b", Mask{4, 10, 4, 11}},
		{"4a  4b", Mask{4, 10, 4, 11}},
		{" 4a", Mask{4, 10}},
		{"   4a", Mask{4, 10}},
		{"4a ", Mask{4, 10}},
		{"4a   ", Mask{4, 10}},
		{"  4a4b  ?? 4c ", Mask{4, 10, 4, 11, -1, -1, 4, 12}},
		{"0123456789abcdef", Mask{0, 1, 2, 3, 4, 5, 6, 7, 8, 9, 10, 11, 12, 13, 14, 15}},
	} {
		m, err := Read(x.s)
		same(t, fmt.Sprintf("Read(%q)", x.s), m, err, x.want, api.OK)
	}
	// How many bytes there may be, Like alone tells.
	for _, n := range []int{64, 65, 1000} {
		m, err := Read(strings.Repeat("a?", n))
		if len(m) != 2*n || err != nil {
			t.Errorf("Read of %d bytes: %d halves, %v", n, len(m), err)
		}
	}
}

// 9.2: Read: ErrForm: any other byte, a blank elsewhere, no half, or one too many.
func TestReadErrors(t *testing.T) {
	for _, s := range []string{
		"", " ", "   ",
		"4", "?", " 4", "4 ", "4a4", "4a 4", "4a?", "4a 4 ",
		"4 a", "? ?", "4a 4 b", "4  a", " 4 a",
		"4A", "A4", "FF", "F?", "4g", "g4", "0x4a", "4a-4b", "4a,4b", "-1", "4a\t4b", "4a\n", "\n4a", "\x004a", "4a\x00", "4a\xa0", "4\xff", "é", "**", "..", "4a/", "4a:", "4a`", "4a@",
	} {
		m, err := Read(s)
		same(t, fmt.Sprintf("Read(%q)", s), m, err, nil, api.ErrForm)
	}
}

// 9.2: Read of each byte as the first half, as the second half, ahead of a byte, and behind it.
func TestReadEachByte(t *testing.T) {
	for c := range 256 {
		half, wrong := strings.IndexByte("0123456789abcdef", byte(c)), api.ErrForm
		if half >= 0 || c == '?' {
			wrong = api.OK
		}
		var first, second Mask
		if wrong == api.OK {
			first, second = Mask{half, 7}, Mask{7, half}
		}
		b := string([]byte{byte(c)})
		m, err := Read(b + "7")
		if c == ' ' {
			same(t, "Read of a blank and a half", m, err, nil, api.ErrForm)
		} else {
			same(t, fmt.Sprintf("Read(%q)", b+"7"), m, err, first, wrong)
		}
		m, err = Read("7" + b)
		same(t, fmt.Sprintf("Read(%q)", "7"+b), m, err, second, wrong)
		for _, s := range []string{b + "77", "77" + b} {
			m, err = Read(s)
			if c == ' ' {
				same(t, fmt.Sprintf("Read(%q)", s), m, err, Mask{7, 7}, api.OK)
			} else {
				same(t, fmt.Sprintf("Read(%q)", s), m, err, nil, api.ErrForm)
			}
		}
	}
}

// 9.2: Read of all short texts: what is left without the blanks is pairs of halves, and no blank stands within a pair.
func TestReadShortTexts(t *testing.T) {
	texts(6, "0f? F", func(s string) {
		rest, right := s, true
		var want Mask
		for right && strings.Trim(rest, " ") != "" {
			rest = strings.TrimLeft(rest, " ")
			right = len(rest) >= 2 && !strings.ContainsAny(rest[:2], " F")
			if right {
				for _, c := range rest[:2] {
					want = append(want, map[rune]int{'0': 0, 'f': 15, '?': -1}[c])
				}
				rest = rest[2:]
			}
		}
		m, err := Read(s)
		if right && len(want) > 0 {
			same(t, fmt.Sprintf("Read(%q)", s), m, err, want, api.OK)
		} else {
			same(t, fmt.Sprintf("Read(%q)", s), m, err, nil, api.ErrForm)
		}
	})
}

// 9.2: Like, of places that are told here.
func TestLike(t *testing.T) {
	for _, x := range []struct {
		s    string
		m    Mask
		want []int
	}{
		{"banana", Mask{6, 1}, []int{1, 3, 5}},
		{"banana", Mask{6, 1, 6, 14}, []int{1, 3}},
		{"banana", Mask{6, 1, 6, 14, 6, 1}, []int{1, 3}},
		{"banana", Mask{6, 2}, []int{0}},
		{"banana", Mask{1, 6}, nil},
		{"banana", Mask{6, 3}, nil},
		// Open halves, and bytes that are open wholly: each place at which the mask has room.
		{"abAB", Mask{6, -1}, []int{0, 1}},
		{"abAB", Mask{-1, 1}, []int{0, 2}},
		{"abAB", Mask{-1, -1}, []int{0, 1, 2, 3}},
		{"abAB", Mask{-1, -1, -1, -1}, []int{0, 1, 2}},
		{"abAB", Mask{-1, 2, -1, -1}, []int{1}},
		{"abAB", Mask{-1, -1, -1, 2}, []int{0, 2}},
		{"abAB", Mask{-1, 1, 6, -1}, []int{0}},
		{"abAB", Mask{-1, -1, -1, -1, -1, -1, -1, -1}, []int{0}},
		{"abAB", Mask{-1, -1, -1, -1, -1, -1, -1, -1, -1, -1}, nil},
		// At the beginning, at the very end, all of it, and cut off there.
		{"abc", Mask{6, 1}, []int{0}},
		{"abc", Mask{6, 3}, []int{2}},
		{"abc", Mask{6, 1, 6, 2, 6, 3}, []int{0}},
		{"abc", Mask{6, 1, 6, 2, 6, 3, -1, -1}, nil},
		{"abc", Mask{6, 3, -1, -1}, nil},
		{"", Mask{-1, -1}, nil},
		{"", Mask{0, 0}, nil},
		// Bytes of 0, and of 128 and more.
		{"\x00\x80\xff\x08", Mask{0, 0}, []int{0}},
		{"\x00\x80\xff\x08", Mask{8, 0}, []int{1}},
		{"\x00\x80\xff\x08", Mask{0, 8}, []int{3}},
		{"\x00\x80\xff\x08", Mask{15, 15}, []int{2}},
		{"\x00\x80\xff\x08", Mask{15, 15, 0, 8}, []int{2}},
		{"\x00\x80\xff\x08", Mask{-1, 0}, []int{0, 1}},
		// Any number below 0 is any half; 16, and all above, none.
		{"ab", Mask{-2, 1}, []int{0}},
		{"ab", Mask{6, -16}, []int{0, 1}},
		{"ab", Mask{math.MinInt, math.MinInt + 1}, []int{0, 1}},
		{"\x00\x0f\xf0\xff", Mask{15, -1}, []int{2, 3}},
		{"\x00\x0f\xf0\xff", Mask{-1, 15}, []int{1, 3}},
		{"\x00\x0f\xf0\xff", Mask{16, -1}, nil},
		{"\x00\x0f\xf0\xff", Mask{-1, 16}, nil},
		{"\x00\x0f\xf0\xff", Mask{-1, 255}, nil},
		{"\x00\x0f\xf0\xff", Mask{256, 0}, nil},
		{"\x00\x0f\xf0\xff", Mask{-1, -1, 17, -1}, nil},
		{"\x00\x0f\xf0\xff", Mask{-1, math.MaxInt}, nil},
		{"\x00\x0f\xf0\xff", Mask{math.MaxInt - 1, -1}, nil},
	} {
		l, err := Like(x.s, x.m)
		same(t, fmt.Sprintf("Like(%q, %v)", x.s, x.m), l, err, x.want, api.OK)
	}
}

// 9.2: Like: ErrArg: no byte, half of one, or more than 64, whatever else there is; up to 64 there is none.
func TestLikeBytes(t *testing.T) {
	long := strings.Repeat("a", 70)
	for n := range 140 {
		m := make(Mask, n)
		for i := range m {
			m[i] = []int{6, 1}[i%2]
		}
		for _, s := range []string{"", "a", long} {
			l, err := Like(s, m)
			what := fmt.Sprintf("Like of %d bytes, %d halves", len(s), n)
			if n == 0 || n%2 == 1 || n > 128 {
				same(t, what, l, err, nil, api.ErrArg)
			} else {
				same(t, what, l, err, places(s, func(at int) bool { return at+n/2 <= len(s) }), api.OK)
			}
		}
	}
	for _, n := range []int{1, 129, 130, 4001} {
		for _, half := range append([]int{-1, 16}, ends...) {
			l, err := Like("", slices.Repeat(Mask{half}, n))
			same(t, fmt.Sprintf("Like of %d halves of %d", n, half), l, err, nil, api.ErrArg)
		}
	}
	l, err := Like("abc", nil)
	same(t, "Like of no mask", l, err, nil, api.ErrArg)
}

// 9.2: each byte of a mask of 64 matters, both halves of it, the first and the last one, too.
func TestLikeEachByte(t *testing.T) {
	const n = 64
	b := make([]byte, n)
	m := make(Mask, 2*n)
	for i := range b {
		b[i] = byte(37 * i)
		m[2*i], m[2*i+1] = int(b[i]>>4), int(b[i]&15)
	}
	s := "ab" + string(b) + "c"
	for i := range m {
		l, err := Like(s, m)
		same(t, "Like of 64 bytes", l, err, []int{2}, api.OK)
		was := m[i]
		m[i] = was ^ 1
		l, err = Like(s, m)
		same(t, fmt.Sprintf("Like with another half %d", i), l, err, nil, api.OK)
		m[i] = -1
		l, err = Like(s, m)
		same(t, fmt.Sprintf("Like with half %d open", i), l, err, []int{2}, api.OK)
		m[i] = was
	}
}

// 9.2: Like of each pair of halves finds, in all bytes, just those that are so.
func TestLikeAllBytes(t *testing.T) {
	var b [256]byte
	for i := range b {
		b[i] = byte(i)
	}
	s := string(b[:])
	for high := -2; high <= 17; high++ {
		for low := -2; low <= 17; low++ {
			m := Mask{high, low}
			l, err := Like(s, m)
			want := places(s, func(at int) bool {
				return (high < 0 || high == at/16) && (low < 0 || low == at%16)
			})
			same(t, fmt.Sprintf("Like of all bytes, %v", m), l, err, want, api.OK)
		}
	}
}

// 9.2: Like of texts and masks that are drawn, held against halves that are looked at one by one.
func TestHalvesOneByOne(t *testing.T) {
	d := drawn(9)
	for range 5000 {
		s := d.text(150, "\x00\x01\x10\x11\xf1")
		m := make(Mask, 2*(1+d.below(5)))
		if d.below(4) == 0 {
			m = make(Mask, 2*(1+d.below(64)))
		}
		for i := range m {
			// A long mask that isn't mostly open is found nowhere.
			if m[i] = -1; len(m) <= 10 || d.below(9) == 0 {
				m[i] = []int{-1, -1, -1, -3, 0, 0, 0, 1, 1, 1, 15, 16}[d.below(12)]
			}
		}
		l, err := Like(s, m)
		want := places(s, func(at int) bool { return like(s, m, at) })
		same(t, fmt.Sprintf("Like(%q, %v)", s, m), l, err, want, api.OK)
	}
}

// 9.2: a mask without an open half is found where All finds its bytes.
func TestLikeIsAll(t *testing.T) {
	d := drawn(4)
	for range 2000 {
		s, p := d.text(100, "a\xffb"), "a"+d.text(3, "a\xffb")
		m, err := Read(fmt.Sprintf("%x", p))
		if err != nil {
			t.Fatal(err)
		}
		l, err := Like(s, m)
		want, _ := All(s, p)
		same(t, fmt.Sprintf("Like(%q, %v)", s, m), l, err, want, api.OK)
	}
}

// 9.3: Any, of places that are told here.
func TestAny(t *testing.T) {
	for _, x := range []struct {
		s    string
		ps   []string
		want []api.Match
	}{
		{"abc", nil, nil},
		{"abc", []string{}, nil},
		{"", nil, nil},
		{"", []string{"a"}, nil},
		{"abc", []string{"b"}, pairs(1, 0)},
		{"abc", []string{"x"}, nil},
		{"abc", []string{"x", "c"}, pairs(2, 1)},
		{"abc", []string{"c", "a"}, pairs(0, 1, 2, 0)},
		{"abc", []string{"abc"}, pairs(0, 0)},
		{"abc", []string{"abcd", "cd", "bcd"}, nil},
		{"abc", []string{"abcd", "bc"}, pairs(1, 1)},
		{"banana", []string{"ana", "nan"}, pairs(1, 0, 2, 1, 3, 0)},
		{"aaa", []string{"a", "aa", "aaa"}, pairs(0, 0, 0, 1, 0, 2, 1, 0, 1, 1, 2, 0)},
		{"aaa", []string{"aaa", "aa", "a"}, pairs(0, 0, 0, 1, 0, 2, 1, 1, 1, 2, 2, 2)},
		// Alike ones.
		{"aba", []string{"a", "a"}, pairs(0, 0, 0, 1, 2, 0, 2, 1)},
		{"abab", []string{"ab", "b", "ab", "b"}, pairs(0, 0, 0, 2, 1, 1, 1, 3, 2, 0, 2, 2, 3, 1, 3, 3)},
		// Ones that begin, end, or lie within others: what ends last may begin first.
		{"abcd", []string{"abcd", "ab"}, pairs(0, 0, 0, 1)},
		{"abcd", []string{"ab", "abcd"}, pairs(0, 0, 0, 1)},
		{"abcd", []string{"cd", "abcd"}, pairs(0, 1, 2, 0)},
		{"abcd", []string{"d", "cd", "bcd", "abcd"}, pairs(0, 3, 1, 2, 2, 1, 3, 0)},
		{"abcd", []string{"bc", "abcd"}, pairs(0, 1, 1, 0)},
		{"abce", []string{"bc", "abcd"}, pairs(1, 0)},
		{"abcde", []string{"c", "abcdx", "bcd"}, pairs(1, 2, 2, 0)},
		{"ushers", []string{"he", "she", "his", "hers"}, pairs(1, 1, 2, 0, 2, 3)},
		{"abcabd", []string{"abcabx", "cabd", "ab"}, pairs(0, 2, 2, 1, 3, 2)},
		// Any bytes.
		{"\x00\xff\x00\xff", []string{"\xff\x00", "\xff", "\x00"}, pairs(0, 2, 1, 0, 1, 1, 2, 2, 3, 1)},
		{"\x80\x7f", []string{"\x7f", "\x80\x7f"}, pairs(0, 1, 1, 0)},
	} {
		l, err := Any(x.s, x.ps)
		same(t, fmt.Sprintf("Any(%q, %q)", x.s, x.ps), l, err, x.want, api.OK)
	}
}

// 9.3: Any: ErrArg: an empty one, wherever it is; more than 60, whatever they are.
func TestAnyErrors(t *testing.T) {
	for _, ps := range [][]string{{""}, {"", "a"}, {"a", ""}, {"a", "", "b"}, make([]string, 60), slices.Repeat([]string{"a"}, 61), slices.Repeat([]string{"x"}, 1000), make([]string, 61)} {
		for _, s := range []string{"", "a", "abc"} {
			l, err := Any(s, ps)
			same(t, fmt.Sprintf("Any(%q, %q)", s, ps), l, err, nil, api.ErrArg)
		}
	}
	for n := range 62 {
		ps := slices.Repeat([]string{"ab"}, n)
		l, err := Any("abcab", ps)
		if n > 60 {
			same(t, fmt.Sprint("Any of ", n), l, err, nil, api.ErrArg)
		} else {
			same(t, fmt.Sprint("Any of ", n), l, err, matches("abcab", ps), api.OK)
		}
	}
}

// 9.3: each of 60 different patterns is told by its own number.
func TestAnyOfSixty(t *testing.T) {
	var ps []string
	for i := range 60 {
		ps = append(ps, strings.Repeat("a", 60-i))
	}
	s := strings.Repeat("a", 70) + "b" + strings.Repeat("a", 30)
	l, err := Any(s, ps)
	same(t, "Any of 60", l, err, matches(s, ps), api.OK)
	for i := range ps {
		ps[i] = string([]byte{byte(4 * i)})
	}
	s = string([]byte{0, 236, 4, 1, 128, 235, 236, 240})
	l, err = Any(s, ps)
	same(t, "Any of 60 bytes", l, err, pairs(0, 0, 1, 59, 2, 1, 4, 32, 6, 59), api.OK)
}

// 9.3: Any of all short texts and pairs of patterns, and of longer ones that are drawn, held against places and patterns that are looked at one by one.
func TestPatternsOneByOne(t *testing.T) {
	check := func(s string, ps []string) {
		l, err := Any(s, ps)
		if slices.Contains(ps, "") {
			same(t, fmt.Sprintf("Any(%q, %q)", s, ps), l, err, nil, api.ErrArg)
		} else {
			same(t, fmt.Sprintf("Any(%q, %q)", s, ps), l, err, matches(s, ps), api.OK)
		}
	}
	texts(6, "ab", func(s string) {
		texts(3, "ab", func(p string) {
			texts(3, "ab", func(q string) { check(s, []string{p, q}) })
		})
	})
	d := drawn(6)
	for range 5000 {
		kinds := []string{"ab", "aaab", "abc\xff"}[d.below(3)]
		var ps []string
		for range d.below(9) {
			ps = append(ps, d.text(6, kinds)+kinds[:1])
		}
		check(d.text(60, kinds), ps)
	}
}

// 9.1 to 9.3: what is found is what is there, by whichever way: one pattern of Any is found where All finds it.
func TestAnyIsAll(t *testing.T) {
	d := drawn(8)
	for range 2000 {
		s, p := d.text(80, "ab"), "a"+d.text(4, "ab")
		l, err := Any(s, []string{p})
		var want []api.Match
		all, _ := All(s, p)
		for _, at := range all {
			want = append(want, api.Match{At: at})
		}
		same(t, fmt.Sprintf("Any(%q, %q)", s, p), l, err, want, api.OK)
	}
}

// P1: of long texts and patterns, which look alike for long, an answer comes soon.
func TestLongTexts(t *testing.T) {
	const n = 400_000
	s, p := strings.Repeat("a", n), strings.Repeat("a", n/2)
	l, err := All(s, p)
	if len(l) != n/2+1 || err != nil {
		t.Errorf("All: %d places, %v", len(l), err)
	}
	l, err = All(s, p+"b")
	same(t, "All of what goes on otherwise", l, err, nil, api.OK)
	l, err = All(s+"b", p+"b")
	same(t, "All of what stands at the end", l, err, []int{n / 2}, api.OK)
	at, err := Prev(s+"b"+s, p, n)
	number(t, "Prev", at, err, n/2, api.OK)
	at, err = Next(s+"b"+s, p, n/2+1)
	number(t, "Next", at, err, n+1, api.OK)
	m, err := Any(s+"b", []string{p + "b", "b" + p, "ab", "b"})
	same(t, "Any", m, err, pairs(n/2, 0, n-1, 2, n, 3), api.OK)
	l, err = Like(s, slices.Repeat(Mask{6, -1}, 64))
	if len(l) != n-63 || err != nil {
		t.Errorf("Like: %d places, %v", len(l), err)
	}
}

// P4: lists that are handed in stay as they are, with what stands behind them; what comes out is the caller's.
func TestLists(t *testing.T) {
	m := Mask{6, -7, -1, 2, 9, 9}
	ps := []string{"b", "ab", "a", "x", ""}
	wasM, wasPs := slices.Clone(m), slices.Clone(ps)
	read, _ := Read("6? ?2")
	clear(read)
	for range 2 {
		borders := Borders("abab")
		same(t, "Borders", borders, nil, []int{0, 0, 1, 2}, api.OK)
		clear(borders)
		all, err := All("abab", "ab")
		same(t, "All", all, err, []int{0, 2}, api.OK)
		clear(all)
		read, err := Read("6? ?2")
		same(t, "Read", read, err, Mask{6, -1, -1, 2}, api.OK)
		clear(read)
		like, err := Like("abab", m[:4])
		same(t, "Like", like, err, []int{0, 2}, api.OK)
		clear(like)
		found, err := Any("abab", ps[:3])
		same(t, "Any", found, err, pairs(0, 1, 0, 2, 1, 0, 2, 1, 2, 2, 3, 0), api.OK)
		clear(found)
	}
	if !slices.Equal(m, wasM) || !slices.Equal(ps, wasPs) {
		t.Errorf("what was handed in is %v, %q now", m, ps)
	}
}
