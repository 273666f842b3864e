package suffix

import (
	"errors"
	"fmt"
	"slices"
	"strings"
	"testing"

	"escritoire/api"
	"escritoire/find"
)

// drawn is numbers that look drawn, the same each time.
type drawn uint64

func (d *drawn) below(most int) int {
	*d = *d*6364136223846793005 + 1442695040888963407
	return int(uint64(*d>>33) % uint64(most))
}

// text is just so many bytes, each of them one of kinds.
func (d *drawn) text(n int, kinds string) string {
	b := make([]byte, n)
	for i := range b {
		b[i] = kinds[d.below(len(kinds))]
	}
	return string(b)
}

// texts goes through all texts of up to so many bytes, each of them one of kinds.
func texts(most int, kinds string, do func(s string)) {
	level := []string{""}
	for n := 0; ; n++ {
		var next []string
		for _, s := range level {
			do(s)
			for i := range len(kinds) {
				next = append(next, s+kinds[i:i+1])
			}
		}
		if n == most {
			return
		}
		level = next
	}
}

// errno is the Errno of an error that has no place; -2, if it has one.
func errno(err error) api.Errno {
	var a *api.At
	if errors.As(err, &a) {
		return -2
	}
	return api.Tell(err)
}

// same holds a list, and its error, against what is wanted; beside an error there is nothing.
func same(t *testing.T, what string, got []int, err error, want []int, wrong api.Errno) {
	t.Helper()
	if errno(err) != wrong {
		t.Errorf("%.300s: error %v, want %v", what, err, wrong)
	}
	if !slices.Equal(got, want) || wrong != api.OK && got != nil {
		t.Errorf("%.300s = %.300s, want %.300s", what, fmt.Sprint(got), fmt.Sprint(want))
	}
}

// ordered is Sort, as the words tell it: the ends themselves are sorted.
func ordered(s string) []int {
	var l []int
	for at := range len(s) {
		l = append(l, at)
	}
	slices.SortFunc(l, func(a, b int) int { return strings.Compare(s[a:], s[b:]) })
	return l
}

// shared is Common, as the words tell it, of ends that are sorted.
func shared(s string, order []int) []int {
	l := make([]int, len(order))
	for i := 1; i < len(order); i++ {
		a, b := s[order[i-1]:], s[order[i]:]
		for l[i] < len(a) && l[i] < len(b) && a[l[i]] == b[l[i]] {
			l[i]++
		}
	}
	return l
}

// places is Find, as the words tell it: all places are looked at.
func places(s, p string) []int {
	var l []int
	for at := range len(s) {
		if strings.HasPrefix(s[at:], p) {
			l = append(l, at)
		}
	}
	return l
}

// twice is Longest, as the words tell it: all texts of each length are held against each other.
func twice(s string) (int, int) {
	for n := len(s) - 1; n > 0; n-- {
		var l []string
		for at := range len(s) - n + 1 {
			l = append(l, s[at:at+n])
		}
		slices.Sort(l)
		for i := 1; i < len(l); i++ {
			if l[i] == l[i-1] {
				return places(s, l[i])[0], n
			}
		}
	}
	return 0, 0
}

// unlike is Parts, as the words tell it: all texts are put into a set.
func unlike(s string) int {
	set := map[string]bool{}
	for from := range len(s) {
		for to := from + 1; to <= len(s); to++ {
			set[s[from:to]] = true
		}
	}
	return len(set)
}

// sortIs holds Sort and Common against what is wanted.
func sortIs(t *testing.T, s string, order, alike []int) {
	t.Helper()
	l, err := Sort(s)
	same(t, fmt.Sprintf("Sort(%q)", s), l, err, order, api.OK)
	l, err = Common(s)
	same(t, fmt.Sprintf("Common(%q)", s), l, err, alike, api.OK)
}

// findIs holds Find against what is wanted.
func findIs(t *testing.T, s, p string, want []int) {
	t.Helper()
	l, err := Find(s, p)
	same(t, fmt.Sprintf("Find(%q, %q)", s, p), l, err, want, api.OK)
}

// longestIs holds Longest against what is wanted.
func longestIs(t *testing.T, s string, at, n int) {
	t.Helper()
	gotAt, gotN, err := Longest(s)
	if gotAt != at || gotN != n || err != nil {
		t.Errorf("Longest(%.200q) = %d, %d, %v; want %d, %d, nil", s, gotAt, gotN, err, at, n)
	}
}

// partsAre holds Parts against what is wanted.
func partsAre(t *testing.T, s string, want int) {
	t.Helper()
	n, err := Parts(s)
	if n != want || err != nil {
		t.Errorf("Parts(%.200q) = %d, %v; want %d, nil", s, n, err, want)
	}
}

// rising is the numbers from one on up to another one that isn't in it; falling, the same ones back.
func rising(from, to int) []int {
	var l []int
	for n := from; n < to; n++ {
		l = append(l, n)
	}
	return l
}

func falling(from, to int) []int {
	l := rising(from, to)
	slices.Reverse(l)
	return l
}

// grown is a text of so many bytes that goes on as it did: each piece of it is the two ahead of it.
func grown(n int) string {
	a, b := "a", "ab"
	for len(b) < n {
		a, b = b, b+a
	}
	return b[:n]
}

// 10.1: Sort and Common, of numbers that are told here.
func TestSortAndCommon(t *testing.T) {
	for _, x := range []struct {
		s            string
		order, alike []int
	}{
		// None, one, and two.
		{"", nil, nil},
		{"a", []int{0}, []int{0}},
		{"\x00", []int{0}, []int{0}},
		{"\xff", []int{0}, []int{0}},
		{"ab", []int{0, 1}, []int{0, 0}},
		{"ba", []int{1, 0}, []int{0, 0}},
		{"aa", []int{1, 0}, []int{0, 1}},
		{"\x00\x00", []int{1, 0}, []int{0, 1}},
		{"\xff\x00", []int{1, 0}, []int{0, 0}},
		// All begin with unlike bytes.
		{"abcd", []int{0, 1, 2, 3}, []int{0, 0, 0, 0}},
		{"dcba", []int{3, 2, 1, 0}, []int{0, 0, 0, 0}},
		{"cadb", []int{1, 3, 0, 2}, []int{0, 0, 0, 0}},
		// Many begin alike.
		{"banana", []int{5, 3, 1, 0, 4, 2}, []int{0, 1, 3, 0, 0, 2}},
		{"mississippi", []int{10, 7, 4, 1, 0, 9, 8, 6, 3, 5, 2}, []int{0, 1, 1, 4, 0, 0, 1, 0, 2, 1, 3}},
		{"abracadabra", []int{10, 7, 0, 3, 5, 8, 1, 4, 6, 9, 2}, []int{0, 1, 4, 1, 1, 0, 3, 0, 0, 0, 2}},
		{"aaaaa", []int{4, 3, 2, 1, 0}, []int{0, 1, 2, 3, 4}},
		{"ababab", []int{4, 2, 0, 5, 3, 1}, []int{0, 2, 4, 0, 1, 3}},
		{"bababa", []int{5, 3, 1, 4, 2, 0}, []int{0, 1, 3, 0, 2, 4}},
		{"abcabc", []int{3, 0, 4, 1, 5, 2}, []int{0, 3, 0, 2, 0, 1}},
		// One end that another begins with stands ahead, also if that one goes on with the byte 0.
		{"aba", []int{2, 0, 1}, []int{0, 1, 0}},
		{"abab\x00", []int{4, 2, 0, 3, 1}, []int{0, 0, 2, 0, 1}},
		{"a\x00a", []int{1, 2, 0}, []int{0, 0, 1}},
		{"\x00\x00\x00", []int{2, 1, 0}, []int{0, 1, 2}},
		{"\x00a\x00", []int{2, 0, 1}, []int{0, 1, 0}},
		{"ab\x00ab", []int{2, 3, 0, 4, 1}, []int{0, 0, 2, 0, 1}},
		// Bytes of 128 and more stand behind all others; they are bytes, not signs.
		{"\x7f\x80", []int{0, 1}, []int{0, 0}},
		{"\x80\x7f", []int{1, 0}, []int{0, 0}},
		{"\xff\x00\x80\x7f", []int{1, 3, 2, 0}, []int{0, 0, 0, 0}},
		{"\xff\xff\xfe", []int{2, 1, 0}, []int{0, 0, 1}},
		{"\xff\xfe\xff\xfe", []int{3, 1, 2, 0}, []int{0, 1, 0, 2}},
		{"éè", []int{3, 1, 2, 0}, []int{0, 0, 0, 1}},
		{"aB", []int{1, 0}, []int{0, 0}},
	} {
		sortIs(t, x.s, x.order, x.alike)
	}
}

// 10.1: each byte stands behind all lesser ones and ahead of all greater ones.
func TestSortEachByte(t *testing.T) {
	b := make([]byte, 256)
	for i := range b {
		b[i] = byte(i)
	}
	sortIs(t, string(b), rising(0, 256), make([]int, 256))
	slices.Reverse(b)
	sortIs(t, string(b), falling(0, 256), make([]int, 256))
	for i := range b {
		b[i] = byte(37 * i)
	}
	want := make([]int, 256)
	for i, c := range b {
		want[c] = i
	}
	sortIs(t, string(b), want, make([]int, 256))
}

// 10.1: Find, of places that are told here.
func TestFind(t *testing.T) {
	for _, x := range []struct {
		s, p string
		want []int
	}{
		// Once, several times (not in the order of their ends), one over another, and nowhere.
		{"hello", "ell", []int{1}},
		{"banana", "b", []int{0}},
		{"banana", "a", []int{1, 3, 5}},
		{"banana", "an", []int{1, 3}},
		{"banana", "ana", []int{1, 3}},
		{"banana", "na", []int{2, 4}},
		{"axayaz", "a", []int{0, 2, 4}},
		{"azayax", "a", []int{0, 2, 4}},
		{"ayazaxa", "a", []int{0, 2, 4, 6}},
		{"aaaa", "a", []int{0, 1, 2, 3}},
		{"aaaa", "aa", []int{0, 1, 2}},
		{"aaaa", "aaaa", []int{0}},
		{"abababa", "aba", []int{0, 2, 4}},
		{"banana", "nab", nil},
		{"banana", "anb", nil},
		{"banana", "A", nil},
		{"banana", "c", nil},
		{"banana", "z", nil},
		{"banana", "\x00", nil},
		{"banana", "\xff", nil},
		// At the beginning, at the very end, as long as the text, and longer.
		{"abc", "a", []int{0}},
		{"abc", "c", []int{2}},
		{"abc", "bc", []int{1}},
		{"abc", "abc", []int{0}},
		{"abc", "abd", nil},
		{"abc", "abb", nil},
		{"abc", "abcd", nil},
		{"abc", "abc\x00", nil},
		{"abc", "cd", nil},
		{"abc", "c\x00", nil},
		{"abc", "abcabc", nil},
		{"a", "a", []int{0}},
		{"a", "b", nil},
		{"a", "aa", nil},
		{"", "a", nil},
		{"", "\x00", nil},
		{"", "abc", nil},
		// Bytes of 0, and of 128 and more.
		{"\x00\x00\xff\x00", "\x00", []int{0, 1, 3}},
		{"\x00\x00\xff\x00", "\x00\xff", []int{1}},
		{"\xff\xfe\xff\xff", "\xff", []int{0, 2, 3}},
		{"\xff\xfe\xff\xff", "\xff\xff", []int{2}},
		{"\x80\x7f\x80", "\x80", []int{0, 2}},
		{"\x80\x7f\x80", "\x7f", []int{1}},
		{"aéé", "\xa9", []int{2, 4}},
		{"aéé", "é", []int{1, 3}},
	} {
		findIs(t, x.s, x.p, x.want)
	}
}

// 10.1: Longest, of places that are told here.
func TestLongest(t *testing.T) {
	for _, x := range []struct {
		s     string
		at, n int
	}{
		// None stands twice.
		{"", 0, 0},
		{"a", 0, 0},
		{"ab", 0, 0},
		{"ba", 0, 0},
		{"zyxwv", 0, 0},
		{"\x00\x80\xff\x7f", 0, 0},
		// Apart, right behind one another, and one over another.
		{"abcxabc", 0, 3},
		{"xabcyabc", 1, 3},
		{"abcabc", 0, 3},
		{"aa", 0, 1},
		{"aaa", 0, 2},
		{"aaaaa", 0, 4},
		{"banana", 1, 3},
		{"ababab", 0, 4},
		{"xababa", 1, 3},
		{"mississippi", 1, 4},
		{"\x00\x00\x00", 0, 2},
		{"\xffa\xffa", 0, 2},
		// Of several as long the first in order, not the one that stands first.
		{"bbaa", 2, 1},
		{"aabb", 0, 1},
		{"cdcd abab", 5, 2},
		{"abab cdcd", 0, 2},
		{"zxzyxy", 1, 1},
		{"abba", 0, 1},
		{"baab", 1, 1},
		{"\x80\x80\x7f\x7f", 2, 1},
		{"\xff\xff\x00\x00", 2, 1},
		{"xyz1xyz2abc1abc2", 8, 3},
		// Where it stands first, though the end that begins there isn't the first in order, or the last.
		{"abzabyabx", 0, 2},
		{"abxabyabz", 0, 2},
		{"abyabzabx", 0, 2},
		{"_abyabxabz", 1, 2},
		{"abyabxabzabw", 0, 2},
	} {
		longestIs(t, x.s, x.at, x.n)
	}
}

// 10.1: Parts, of numbers that are told here.
func TestParts(t *testing.T) {
	for _, x := range []struct {
		s    string
		want int
	}{
		{"", 0},
		{"a", 1},
		{"\x00", 1},
		{"aa", 2},
		{"ab", 3},
		{"aba", 5},
		{"aab", 5},
		{"abab", 7},
		{"banana", 15},
		{"mississippi", 53},
		// All alike: one of each length. All unlike: as many as there are pairs of ends.
		{strings.Repeat("a", 60), 60},
		{strings.Repeat("\x00", 60), 60},
		{strings.Repeat("\xff", 60), 60},
		{"abcdefghij", 55},
		{"\x00\x7f\x80\xff", 10},
		// Two in turn: two of each length, but of the whole.
		{strings.Repeat("ab", 30), 119},
	} {
		partsAre(t, x.s, x.want)
	}
	b := make([]byte, 256)
	for i := range b {
		b[i] = byte(i)
	}
	partsAre(t, string(b), 256*257/2)
}

// check holds all five against the words, of a text and a pattern in it.
func check(t *testing.T, s, p string) {
	t.Helper()
	order := ordered(s)
	sortIs(t, s, order, shared(s, order))
	at, n := twice(s)
	longestIs(t, s, at, n)
	partsAre(t, s, unlike(s))
	if p != "" {
		findIs(t, s, p, places(s, p))
	}
}

// 10.1: all short texts, held against ends and texts that are looked at one by one.
func TestShortTexts(t *testing.T) {
	texts(9, "ab", func(s string) { check(t, s, "") })
	texts(6, "\x00\x80\xff", func(s string) { check(t, s, "") })
	texts(5, "a\x00b\xff", func(s string) { check(t, s, "") })
	texts(7, "ab", func(s string) {
		texts(4, "ab", func(p string) {
			if p != "" {
				findIs(t, s, p, places(s, p))
			}
		})
	})
}

// 10.1: longer texts, drawn, and ones that go on as they did, held against ends and texts that are looked at one by one.
func TestOneByOne(t *testing.T) {
	d := drawn(3)
	for range 1500 {
		kinds := []string{"ab", "aaaaab", "ab\x00\xff", "abcdefghijklmnopqrstuvwxyz"}[d.below(4)]
		s := d.text(d.below(70), kinds)
		p := d.text(1+d.below(4), kinds)
		if s != "" && d.below(2) == 0 {
			// What stands there.
			from := d.below(len(s))
			p = s[from:][:1+d.below(len(s)-from)]
		}
		check(t, s, p)
	}
	for range 150 {
		piece := d.text(1+d.below(9), "ab\xff")
		s := strings.Repeat(piece, 1+d.below(12)) + piece[:d.below(len(piece)+1)]
		check(t, s, piece)
		check(t, s+"a", piece+piece)
		check(t, d.text(3, "ab")+s, piece[:1])
	}
	for n := range 40 {
		check(t, strings.Repeat("a", n), "aa")
		check(t, strings.Repeat("ab", 20)[:n], "aba")
		check(t, strings.Repeat("a", n)+"b", "ab")
		check(t, "b"+strings.Repeat("a", n), "a")
		check(t, grown(n), "abaab")
	}
}

// 9.1, 10.1: what is found is what is there, by whichever way: Find finds a pattern where find.All does.
func TestFindIsAll(t *testing.T) {
	d := drawn(7)
	for range 1000 {
		s, p := d.text(d.below(200), "ab\xff"), d.text(1+d.below(5), "ab\xff")
		want, err := find.All(s, p)
		if err != nil {
			t.Fatal(err)
		}
		findIs(t, s, p, want)
	}
}

// 10.1: a text of just MaxBytes bytes is answered, whatever it is; P1: and soon, though all of its ends begin alike.
func TestMostBytes(t *testing.T) {
	const n = api.MaxBytes
	s := strings.Repeat("a", n)
	sortIs(t, s, falling(0, n), rising(0, n))
	findIs(t, s, "aa", rising(0, n-1))
	findIs(t, s, s, []int{0})
	findIs(t, s, s+"a", nil)
	findIs(t, s, s[1:]+"b", nil)
	longestIs(t, s, 0, n-1)
	partsAre(t, s, n)

	s = strings.Repeat("ab", n/2)
	findIs(t, s, "b"+s[:n-2], []int{1})
	findIs(t, s, s[:n-2], []int{0, 2})
	longestIs(t, s, 0, n-2)
	partsAre(t, s, 2*n-1)

	s = s[:n-1] + "\xff"
	findIs(t, s, "\xff", []int{n - 1})
	findIs(t, s, s, []int{0})

	d := drawn(5)
	for _, s := range []string{s, strings.Repeat("ab", n/2), grown(n), strings.Repeat("b", n-1) + "a", d.text(n, "ab"), d.text(n, "\x00a\x80\xff")} {
		order := ordered(s)
		sortIs(t, s, order, shared(s, order))
		for _, k := range []int{0, n / 3, n - 7} {
			findIs(t, s, s[k:k+7], places(s, s[k:k+7]))
		}
	}
}

// 10.1: ErrLimit: a text of more than MaxBytes bytes, of each of the five.
func TestTooManyBytes(t *testing.T) {
	for _, n := range []int{api.MaxBytes + 1, api.MaxBytes + 2, 2 * api.MaxBytes, 1_000_000} {
		s := strings.Repeat("a", n)
		what := fmt.Sprint(" of ", n, " bytes")
		l, err := Sort(s)
		same(t, "Sort"+what, l, err, nil, api.ErrLimit)
		l, err = Common(s)
		same(t, "Common"+what, l, err, nil, api.ErrLimit)
		for _, p := range []string{"a", "b", s, s + "a"} {
			l, err = Find(s, p)
			same(t, "Find"+what, l, err, nil, api.ErrLimit)
		}
		at, length, err := Longest(s)
		if at != 0 || length != 0 || errno(err) != api.ErrLimit {
			t.Errorf("Longest%s = %d, %d, %v; want 0, 0, ErrLimit", what, at, length, err)
		}
		parts, err := Parts(s)
		if parts != 0 || errno(err) != api.ErrLimit {
			t.Errorf("Parts%s = %d, %v; want 0, ErrLimit", what, parts, err)
		}
	}
}

// 10.1: ErrArg: an empty pattern, ahead of ErrLimit.
func TestNoPattern(t *testing.T) {
	for _, n := range []int{0, 1, 2, 3, api.MaxBytes, api.MaxBytes + 1, 1_000_000} {
		l, err := Find(strings.Repeat("a", n), "")
		same(t, fmt.Sprint("Find of no pattern in ", n, " bytes"), l, err, nil, api.ErrArg)
	}
}

// 10.1: a pattern may have more than MaxBytes bytes: it stands nowhere.
func TestLongPattern(t *testing.T) {
	p := strings.Repeat("a", 1_000_000)
	for _, n := range []int{0, 1, api.MaxBytes} {
		findIs(t, strings.Repeat("a", n), p, nil)
	}
}

// P4: what comes out is the caller's.
func TestLists(t *testing.T) {
	for range 2 {
		order, err := Sort("banana")
		same(t, "Sort", order, err, []int{5, 3, 1, 0, 4, 2}, api.OK)
		clear(order)
		alike, err := Common("banana")
		same(t, "Common", alike, err, []int{0, 1, 3, 0, 0, 2}, api.OK)
		clear(alike)
		found, err := Find("banana", "an")
		same(t, "Find", found, err, []int{1, 3}, api.OK)
		clear(found)
	}
}
