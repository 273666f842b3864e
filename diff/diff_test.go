package diff

import (
	"errors"
	"fmt"
	"math"
	"slices"
	"sort"
	"strings"
	"testing"

	"escritoire/api"
)

// drawn is numbers that look drawn, the same each time.
type drawn uint64

func (d *drawn) below(most int) int {
	*d = *d*6364136223846793005 + 1442695040888963407
	return int(uint64(*d>>33) % uint64(most))
}

// text is just so many bytes, each of them one of kinds.
func (d *drawn) text(n int, kinds string) string {
	b := make([]byte, n)
	for i := range b {
		b[i] = kinds[d.below(len(kinds))]
	}
	return string(b)
}

// near is a text that was made of another one, by so many changes.
func (d *drawn) near(s string, n int, kinds string) string {
	for range n {
		i := d.below(len(s) + 1)
		to := min(i+d.below(4), len(s))
		s = s[:i] + d.text(d.below(4), kinds) + s[to:]
	}
	return s
}

// texts is all texts of up to so many bytes, each of them one of kinds.
func texts(most int, kinds string) []string {
	all, level := []string{""}, []string{""}
	for range most {
		var next []string
		for _, s := range level {
			for i := range len(kinds) {
				next = append(next, s+kinds[i:i+1])
			}
		}
		all = append(all, next...)
		level = next
	}
	return all
}

// pairs goes through pairs of texts: all short ones, and drawn longer ones that have nothing, something, or much in common.
func pairs(do func(a, b string)) {
	few := texts(6, "ab")
	for _, a := range few {
		for _, b := range few {
			do(a, b)
		}
	}
	more := texts(4, "\x00\x80\xff")
	for _, a := range more {
		for _, b := range more {
			do(a, b)
		}
	}
	d := drawn(1)
	for i := range 200 {
		kinds := []string{"ab", "abc", "\x00\x7f\x80\xff", "abcdefghijklmnop"}[i%4]
		a := d.text(d.below(60), kinds)
		do(a, d.text(d.below(60), kinds))
		do(a, d.near(a, d.below(6), kinds))
		do(a, d.text(d.below(60), "XY"))
	}
}

// every is all bytes that there are, once each.
func every() string {
	b := make([]byte, 256)
	for i := range b {
		b[i] = byte(i)
	}
	return string(b)
}

// errno is the Errno of an error that has no place; -2, if it has one.
func errno(err error) api.Errno {
	var a *api.At
	if errors.As(err, &a) {
		return -2
	}
	return api.Tell(err)
}

// keep, take and give are Edits, as Edits and Back tell them.
func keep(n int) api.Edit       { return api.Edit{What: api.Keep, N: n} }
func take(n int) api.Edit       { return api.Edit{What: api.Take, N: n} }
func give(text string) api.Edit { return api.Edit{What: api.Give, Text: text} }

type edits []api.Edit

// sameEdits holds Edits, and their error, against what is wanted.
func sameEdits(t *testing.T, what string, got []api.Edit, err error, want []api.Edit, wrong api.Errno) {
	t.Helper()
	if errno(err) != wrong {
		t.Errorf("%.300s: error %v, want %v", what, err, wrong)
	}
	if !slices.Equal(got, want) {
		t.Errorf("%.300s = %.300q, want %.300q", what, fmt.Sprint(got), fmt.Sprint(want))
	}
}

// sameText holds a text, and its error, against what is wanted.
func sameText(t *testing.T, what, got string, err error, want string, wrong api.Errno) {
	t.Helper()
	if errno(err) != wrong {
		t.Errorf("%.300s: error %v, want %v", what, err, wrong)
	}
	if got != want {
		t.Errorf("%.300s = %.300q of %d bytes, want %.300q of %d", what, got, len(got), want, len(want))
	}
}

// leastTold is, of all ends of both texts, the least number of bytes that are taken out and put in: each way is gone.
func leastTold(a, b string) [][]int {
	least := make([][]int, len(a)+1)
	for i := len(a); i >= 0; i-- {
		least[i] = make([]int, len(b)+1)
		for j := len(b); j >= 0; j-- {
			n := len(a) - i + len(b) - j
			if i < len(a) {
				n = min(n, least[i+1][j]+1)
			}
			if j < len(b) {
				n = min(n, least[i][j+1]+1)
			}
			if i < len(a) && j < len(b) && a[i] == b[j] {
				n = min(n, least[i+1][j+1])
			}
			least[i][j] = n
		}
	}
	return least
}

// editsTold is Edits, as the words tell it, byte by byte; what is kept later is what is neither taken out nor put in.
func editsTold(a, b string) []api.Edit {
	least := leastTold(a, b)
	kept := func(i, j int) int { return (len(a) - i + len(b) - j - least[i][j]) / 2 }
	var l []api.Edit
	for i, j := 0, 0; i < len(a) || j < len(b); {
		var e api.Edit
		if i < len(a) && j < len(b) && a[i] == b[j] {
			e = keep(1)
			i, j = i+1, j+1
		} else if i < len(a) && (j == len(b) || kept(i, j+1) <= kept(i+1, j)) {
			e = take(1)
			i++
		} else {
			e = give(b[j : j+1])
			j++
		}
		if n := len(l); n > 0 && l[n-1].What == e.What {
			l[n-1].N += e.N
			l[n-1].Text += e.Text
		} else {
			l = append(l, e)
		}
	}
	return l
}

var toldEdits = []struct {
	a, b string
	far  int
	l    edits
}{
	{"", "", 0, nil},
	{"abc", "", 3, edits{take(3)}},
	{"", "abc", 3, edits{give("abc")}},
	{"abc", "abc", 0, edits{keep(3)}},
	{"\x00\xff", "\x00\xff", 0, edits{keep(2)}},
	// Nothing in common: a's first.
	{"a", "b", 2, edits{take(1), give("b")}},
	{"abc", "xy", 5, edits{take(3), give("xy")}},
	{"\x80\x00", "\x00\x80\x00\xff", 2, edits{give("\x00"), keep(2), give("\xff")}},
	// One stands within the other, at the beginning, in the middle, at the end.
	{"ab", "abxy", 2, edits{keep(2), give("xy")}},
	{"ab", "xaby", 2, edits{give("x"), keep(2), give("y")}},
	{"ab", "xyab", 2, edits{give("xy"), keep(2)}},
	{"abxy", "ab", 2, edits{keep(2), take(2)}},
	{"xaby", "ab", 2, edits{take(1), keep(2), take(1)}},
	{"xyab", "ab", 2, edits{take(2), keep(2)}},
	// Several ways are as short.
	{"ab", "ba", 2, edits{take(1), keep(1), give("a")}},
	{"ba", "ab", 2, edits{take(1), keep(1), give("b")}},
	{"aab", "ab", 1, edits{keep(1), take(1), keep(1)}},
	{"ab", "aab", 1, edits{keep(1), give("a"), keep(1)}},
	{"aaa", "a", 2, edits{keep(1), take(2)}},
	{"a", "aaa", 2, edits{keep(1), give("aa")}},
	{"aba", "bab", 2, edits{take(1), keep(2), give("b")}},
	{"abab", "ba", 2, edits{take(1), keep(2), take(1)}},
	{"ba", "abab", 2, edits{give("a"), keep(2), give("b")}},
	{"xa", "pa", 2, edits{take(1), give("p"), keep(1)}},
	{"kitten", "sitting", 5, edits{take(1), give("s"), keep(3), take(1), give("i"), keep(1), give("g")}},
	{"abcabba", "cbabac", 5, edits{take(2), keep(1), take(1), keep(1), give("a"), keep(2), give("c")}},
}

// 14.1: Far and Edits of texts whose answers are reckoned by hand.
func TestFarAndEditsTold(t *testing.T) {
	for _, c := range toldEdits {
		n, err := Far(c.a, c.b)
		if n != c.far || err != nil {
			t.Errorf("Far(%q, %q) = %d, %v, want %d", c.a, c.b, n, err, c.far)
		}
		l, err := Edits(c.a, c.b)
		sameEdits(t, fmt.Sprintf("Edits(%q, %q)", c.a, c.b), l, err, c.l, api.OK)
	}
}

// 14.1: Far and Edits of many texts, as the words tell them.
func TestFarAndEditsOfMany(t *testing.T) {
	pairs(func(a, b string) {
		n, err := Far(a, b)
		if want := leastTold(a, b)[0][0]; n != want || err != nil {
			t.Errorf("Far(%q, %q) = %d, %v, want %d", a, b, n, err, want)
		}
		l, err := Edits(a, b)
		sameEdits(t, fmt.Sprintf("Edits(%q, %q)", a, b), l, err, editsTold(a, b), api.OK)
	})
}

// 14.1, 14.2: what Edits tells makes b of a, by Far bytes, with no more Edits than are needed; what Back tells makes a of b again, by as many bytes; Back of Back is what it was.
func TestEditsThereAndBack(t *testing.T) {
	pairs(func(a, b string) {
		what := fmt.Sprintf("of %q, %q", a, b)
		l, _ := Edits(a, b)
		n, _ := Far(a, b)
		moved := 0
		for i, e := range l {
			if e.What != api.Keep {
				moved += e.N + len(e.Text)
			}
			if i > 0 && e.What == l[i-1].What || e.N == 0 && e.Text == "" {
				t.Errorf("Edits %s: %v", what, l)
			}
		}
		if moved != n {
			t.Errorf("Edits %s: %v takes out and puts in %d bytes, but Far is %d", what, l, moved, n)
		}
		made, err := Apply(a, l)
		sameText(t, "Apply "+what, made, err, b, api.OK)
		back, err := Back(a, l)
		if err != nil || len(back) != len(l) {
			t.Errorf("Back %s: %v, %v of %v", what, back, err, l)
		}
		made, err = Apply(b, back)
		sameText(t, "Apply of Back "+what, made, err, a, api.OK)
		again, err := Back(b, back)
		sameEdits(t, "Back of Back "+what, again, err, l, api.OK)
	})
}

// 14.1: Far is a distance.
func TestFarIsADistance(t *testing.T) {
	l := texts(3, "ab\xff")
	far := func(a, b string) int {
		n, _ := Far(a, b)
		return n
	}
	for _, a := range l {
		for _, b := range l {
			n := far(a, b)
			if n != far(b, a) || (n == 0) != (a == b) {
				t.Errorf("Far(%q, %q) = %d, the other way round %d", a, b, n, far(b, a))
			}
			for _, c := range l[:13] {
				if n > far(a, c)+far(c, b) {
					t.Errorf("Far(%q, %q) = %d is more than by %q", a, b, n, c)
				}
			}
		}
	}
}

// 14.1: texts of all bytes, each of which is another one.
func TestFarAndEditsOfEveryByte(t *testing.T) {
	s := every()
	for i := range 256 {
		one := s[i : i+1]
		l, err := Edits(s, one)
		var want edits
		if i > 0 {
			want = append(want, take(i))
		}
		want = append(want, keep(1))
		if i < 255 {
			want = append(want, take(255-i))
		}
		sameEdits(t, fmt.Sprintf("Edits of every byte, and %q", one), l, err, want, api.OK)
		if n, err := Far(one, s); n != 255 || err != nil {
			t.Errorf("Far of %q, and every byte: %d, %v", one, n, err)
		}
		turned := s[i:] + s[:i]
		if n, err := Far(s, turned); n != 2*min(i, 256-i) || err != nil {
			t.Errorf("Far of every byte, turned by %d: %d, %v", i, n, err)
		}
	}
}

// 14.1: just MaxBytes bytes together, and one more.
func TestFarAndEditsOfMuch(t *testing.T) {
	half := api.MaxBytes / 2
	a, b := strings.Repeat("a", api.MaxBytes), strings.Repeat("b", api.MaxBytes)
	mixed := strings.Repeat("ab", half/2)
	d := drawn(2)
	x := d.text(half, "abcd")
	y := d.text(half, "abcd")
	cases := []struct {
		what, a, b string
		far        int
		l          []api.Edit
	}{
		{"a alone", a, "", api.MaxBytes, edits{take(api.MaxBytes)}},
		{"b alone", "", b, api.MaxBytes, edits{give(b)}},
		{"nothing in common", a[:half], b[:half], api.MaxBytes, edits{take(half), give(b[:half])}},
		{"little of b", a[1:], b[:1], api.MaxBytes, edits{take(api.MaxBytes - 1), give("b")}},
		{"little of a", a[:1], b[1:], api.MaxBytes, edits{take(1), give(b[1:])}},
		{"the same", mixed, mixed, 0, edits{keep(half)}},
		{"one byte further", mixed, "b" + mixed[:half-1], 2, edits{take(1), keep(half - 1), give("a")}},
		{"short and long", a[:half-500], a[:half+500], 1000, edits{keep(half - 500), give(a[:1000])}},
		{"long and short", a[:half+500], a[:half-500], 1000, edits{keep(half - 500), take(1000)}},
		{"drawn", x, y, leastTold(x, y)[0][0], editsTold(x, y)},
	}
	for _, c := range cases {
		n, err := Far(c.a, c.b)
		if n != c.far || err != nil {
			t.Errorf("Far: %s: %d, %v, want %d", c.what, n, err, c.far)
		}
		l, err := Edits(c.a, c.b)
		sameEdits(t, "Edits: "+c.what, l, err, c.l, api.OK)
		for _, more := range [][2]string{{c.a + "a", c.b}, {c.a, c.b + "a"}} {
			n, err := Far(more[0], more[1])
			if n != 0 || errno(err) != api.ErrLimit {
				t.Errorf("Far: %s, and one more: %d, %v", c.what, n, err)
			}
			l, err := Edits(more[0], more[1])
			sameEdits(t, "Edits: one more than "+c.what, l, err, nil, api.ErrLimit)
		}
	}
}

const most, least = math.MaxInt, math.MinInt

// toldApply is edits of texts: what they make, and what makes the text again.
var toldApply = []struct {
	a     string
	l     edits
	made  string
	back  edits
	wrong api.Errno
}{
	{"", nil, "", nil, api.OK},
	{"", edits{}, "", nil, api.OK},
	{"abc", nil, "", nil, api.ErrRange},
	{"abc", edits{keep(3)}, "abc", edits{keep(3)}, api.OK},
	{"abc", edits{take(3)}, "", edits{give("abc")}, api.OK},
	{"", edits{give("xy")}, "xy", edits{take(2)}, api.OK},
	{"abcd", edits{keep(1), take(2), give("xyz"), keep(1)}, "axyzd", edits{keep(1), give("bc"), take(3), keep(1)}, api.OK},
	{"\x00\x80\xff", edits{take(1), keep(1), give("\xfe\x00"), take(1)}, "\x80\xfe\x00", edits{give("\x00"), keep(1), take(2), give("\xff")}, api.OK},
	// Of one kind together: one for each.
	{"abcdef", edits{keep(1), keep(2), take(1), take(1), give("x"), give("yz"), keep(1)}, "abcxyzf",
		edits{keep(1), keep(2), give("d"), give("e"), take(1), take(2), keep(1)}, api.OK},
	// Of nothing: one for each, too.
	{"", edits{keep(0), take(0), give("")}, "", edits{keep(0), give(""), take(0)}, api.OK},
	{"ab", edits{keep(0), keep(2), take(0), give(""), keep(0)}, "ab", edits{keep(0), keep(2), give(""), take(0), keep(0)}, api.OK},
	// A Give's N, and Text of the others, don't matter.
	{"ab", edits{{What: api.Keep, N: 1, Text: "zz"}, {What: api.Take, N: 1, Text: "yy"}, {What: api.Give, N: 7, Text: "x"}}, "ax",
		edits{keep(1), give("b"), take(1)}, api.OK},
	{"", edits{{What: api.Give, N: most, Text: "x"}, {What: api.Give, N: most}}, "x", edits{take(1), take(0)}, api.OK},
	// What is none.
	{"", edits{{}}, "", nil, api.ErrArg},
	{"a", edits{{What: 4, N: 1, Text: "a"}}, "", nil, api.ErrArg},
	{"a", edits{{What: -1, N: 1}}, "", nil, api.ErrArg},
	{"a", edits{{What: most, N: 1}}, "", nil, api.ErrArg},
	{"a", edits{{What: least, N: 1}}, "", nil, api.ErrArg},
	{"a", edits{keep(1), {What: 0}}, "", nil, api.ErrArg},
	// N below 0, in each kind.
	{"a", edits{keep(-1)}, "", nil, api.ErrArg},
	{"a", edits{take(-1)}, "", nil, api.ErrArg},
	{"", edits{{What: api.Give, N: -1, Text: "a"}}, "", nil, api.ErrArg},
	{"", edits{keep(least)}, "", nil, api.ErrArg},
	{"", edits{take(least)}, "", nil, api.ErrArg},
	{"", edits{{What: api.Give, N: least}}, "", nil, api.ErrArg},
	{"abc", edits{keep(2), take(-1), keep(2)}, "", nil, api.ErrArg},
	// As many bytes as are left, and one more.
	{"abc", edits{keep(4)}, "", nil, api.ErrRange},
	{"abc", edits{take(4)}, "", nil, api.ErrRange},
	{"abc", edits{keep(1), take(1), keep(2)}, "", nil, api.ErrRange},
	{"abc", edits{take(1), keep(1), take(2)}, "", nil, api.ErrRange},
	{"", edits{keep(1)}, "", nil, api.ErrRange},
	{"", edits{give("abc"), take(1)}, "", nil, api.ErrRange},
	{"abc", edits{keep(most)}, "", nil, api.ErrRange},
	{"abc", edits{take(most)}, "", nil, api.ErrRange},
	{"abc", edits{keep(1), keep(most)}, "", nil, api.ErrRange},
	// Bytes that are left in the end.
	{"abc", edits{keep(2)}, "", nil, api.ErrRange},
	{"abc", edits{take(2)}, "", nil, api.ErrRange},
	{"abc", edits{give("abc")}, "", nil, api.ErrRange},
	// What is told first: of the first Edit at which anything is wrong.
	{"a", edits{take(2), {What: 9}}, "", nil, api.ErrRange},
	{"a", edits{{What: 9}, take(2)}, "", nil, api.ErrArg},
	{"a", edits{keep(2), keep(-1)}, "", nil, api.ErrRange},
	{"a", edits{keep(-1), keep(2)}, "", nil, api.ErrArg},
	{"a", edits{{What: 9, N: 5}}, "", nil, api.ErrArg},
	{"ab", edits{keep(1), {What: 9}}, "", nil, api.ErrArg},
	{"ab", edits{keep(1), give("x"), {What: api.Give, N: -1}}, "", nil, api.ErrArg},
}

// 14.2: Apply and Back, edge by edge.
func TestApplyAndBackTold(t *testing.T) {
	for _, c := range toldApply {
		what := fmt.Sprintf("(%q, %q)", c.a, fmt.Sprint(c.l))
		made, err := Apply(c.a, c.l)
		sameText(t, "Apply"+what, made, err, c.made, c.wrong)
		back, err := Back(c.a, c.l)
		sameEdits(t, "Back"+what, back, err, c.back, c.wrong)
		if c.wrong != api.OK {
			continue
		}
		made, err = Apply(c.made, back)
		sameText(t, "Apply of Back"+what, made, err, c.a, api.OK)
	}
}

// 14.2: just MaxBytes bytes in the end, and one more; ErrLimit is told last, and counts what is made, not a.
func TestApplyAndBackOfMuch(t *testing.T) {
	a, half := strings.Repeat("a", api.MaxBytes), api.MaxBytes/2
	cases := []struct {
		what  string
		a     string
		l     edits
		made  string
		back  edits
		wrong api.Errno
	}{
		{"kept", a, edits{keep(api.MaxBytes)}, a, edits{keep(api.MaxBytes)}, api.OK},
		{"one more kept", a + "b", edits{keep(api.MaxBytes + 1)}, "", nil, api.ErrLimit},
		{"one more, taken", a + "b", edits{keep(api.MaxBytes), take(1)}, a, edits{keep(api.MaxBytes), give("b")}, api.OK},
		{"much more, taken", a + a, edits{take(2 * api.MaxBytes)}, "", edits{give(a + a)}, api.OK},
		{"given", "", edits{give(a)}, a, edits{take(api.MaxBytes)}, api.OK},
		{"one more given", "", edits{give(a + "b")}, "", nil, api.ErrLimit},
		{"given and kept", a[:half], edits{give(a[half:]), keep(half)}, a, edits{take(half), keep(half)}, api.OK},
		{"given and kept, and one more", a[:half], edits{give(a[half:]), keep(half), give("b")}, "", nil, api.ErrLimit},
		{"kept and given, and one more", a[:half], edits{keep(half), give(a[half:] + "b")}, "", nil, api.ErrLimit},
		{"given before as many are taken", a, edits{give(a), take(api.MaxBytes)}, a, edits{take(api.MaxBytes), give(a)}, api.OK},
		{"too much, and what is none", "", edits{give(a + "b"), {What: 9}}, "", nil, api.ErrArg},
		{"too much, and N below 0", "", edits{give(a + "b"), keep(-1)}, "", nil, api.ErrArg},
		{"too much, and more than there is", "", edits{give(a + "b"), take(1)}, "", nil, api.ErrRange},
		{"too much, and some are left", "a", edits{give(a + "b")}, "", nil, api.ErrRange},
		{"far too much", "", slices.Repeat(edits{give(a + a)}, 1000), "", nil, api.ErrLimit},
	}
	for _, c := range cases {
		made, err := Apply(c.a, c.l)
		sameText(t, "Apply: "+c.what, made, err, c.made, c.wrong)
		back, err := Back(c.a, c.l)
		sameEdits(t, "Back: "+c.what, back, err, c.back, c.wrong)
	}
	// One long text, so often that nobody could hold what they make.
	long := strings.Repeat(a, 2000)
	made, err := Apply("", slices.Repeat(edits{give(long)}, 200_000))
	sameText(t, "Apply of a text without an end", made, err, "", api.ErrLimit)
}

// applyTold is Apply, as the words tell it, byte by byte.
func applyTold(a string, l []api.Edit) (string, api.Errno) {
	made := ""
	for _, e := range l {
		if e.What != api.Keep && e.What != api.Take && e.What != api.Give || e.N < 0 {
			return "", api.ErrArg
		}
		if e.What == api.Give {
			made += e.Text
			continue
		}
		for range e.N {
			if a == "" {
				return "", api.ErrRange
			}
			if e.What == api.Keep {
				made += a[:1]
			}
			a = a[1:]
		}
	}
	if a != "" {
		return "", api.ErrRange
	}
	return made, api.OK
}

// 14.2: Apply and Back of drawn edits, right and wrong ones.
func TestApplyAndBackOfMany(t *testing.T) {
	d := drawn(3)
	right := 0
	for range 20_000 {
		a := d.text(d.below(6), "ab\x00\xff")
		var l edits
		for range d.below(5) {
			e := api.Edit{What: 1 + d.below(3), N: d.below(4), Text: d.text(d.below(3), "xy")}
			if d.below(20) == 0 {
				e.N = -d.below(3)
			}
			if d.below(20) == 0 {
				e.What = 6*d.below(3) - 2
			}
			l = append(l, e)
		}
		what := fmt.Sprintf("(%q, %q)", a, fmt.Sprint(l))
		want, wrong := applyTold(a, l)
		made, err := Apply(a, l)
		sameText(t, "Apply"+what, made, err, want, wrong)
		back, err := Back(a, l)
		if errno(err) != wrong || wrong == api.OK && len(back) != len(l) || wrong != api.OK && len(back) > 0 {
			t.Errorf("Back%s: %v, %v", what, back, err)
		}
		if wrong != api.OK {
			continue
		}
		right++
		made, err = Apply(want, back)
		sameText(t, "Apply of Back"+what, made, err, a, api.OK)
		for i, e := range back {
			if (l[i].What == api.Keep) != (e.What == api.Keep) || (l[i].What == api.Give) != (e.What == api.Take) || (e.What == api.Give) != (e.N == 0 && l[i].What == api.Take) || e.What != api.Give && e.Text != "" {
				t.Errorf("Back%s: %v", what, back)
			}
		}
	}
	if right < 500 {
		t.Errorf("only %d of them are right", right)
	}
}

// toldChange is a CHANGE, as the words tell it.
type toldChange struct {
	from, to int
	text     string
}

func changesTold(old, a string) []toldChange {
	var l []toldChange
	at, kept := 0, true
	for _, e := range editsTold(old, a) {
		if e.What == api.Keep {
			at, kept = at+e.N, true
			continue
		}
		if kept {
			l = append(l, toldChange{at, at, ""})
		}
		kept = false
		at += e.N
		l[len(l)-1].to = at
		l[len(l)-1].text += e.Text
	}
	return l
}

// bothTold is Both, as the words tell it: each of a's CHANGES is held against each of b's.
func bothTold(old, a, b string) (string, bool) {
	l := changesTold(old, a)
	for _, y := range changesTold(old, b) {
		twice := false
		for _, x := range changesTold(old, a) {
			if x == y {
				twice = true
			} else if x.from <= y.to && y.from <= x.to {
				return a, false
			}
		}
		if !twice {
			l = append(l, y)
		}
	}
	sort.Slice(l, func(i, j int) bool { return l[i].from > l[j].from })
	for _, c := range l {
		old = old[:c.from] + c.text + old[c.to:]
	}
	return old, true
}

// sameBoth holds what Both tells against what is wanted.
func sameBoth(t *testing.T, old, a, b, want string, wantOK bool, wrong api.Errno) {
	t.Helper()
	what := fmt.Sprintf("Both(%.80q, %.80q, %.80q)", old, a, b)
	got, ok, err := Both(old, a, b)
	sameText(t, what, got, err, want, wrong)
	if ok != wantOK {
		t.Errorf("%s: %v, want %v", what, ok, wantOK)
	}
}

// 14.3: Both of texts whose answers are reckoned by hand.
func TestBothTold(t *testing.T) {
	for _, c := range []struct {
		old, a, b, made string
		ok              bool
	}{
		// One, or none, has changed anything.
		{"", "", "", "", true},
		{"abc", "abc", "abc", "abc", true},
		{"abc", "xyz", "abc", "xyz", true},
		{"abc", "abc", "xyz", "xyz", true},
		{"", "x", "", "x", true},
		{"", "", "x", "x", true},
		{"abc", "", "abc", "", true},
		{"abc", "abc", "", "", true},
		// Far apart, in either order.
		{"abcdefgh", "aXcdefgh", "abcdefYh", "aXcdefYh", true},
		{"abcdefgh", "abcdefYh", "aXcdefgh", "aXcdefYh", true},
		{"abcdefgh", "aXcdeZgh", "abcYefgh", "aXcYeZgh", true},
		{"abcdefgh", "bcdefgh", "abcdefghij", "bcdefghij", true},
		{"\x00\x80\xff\x00", "\xff\x00", "\x00\x80\xff\x00\x80", "\xff\x00\x80", true},
		// At the beginning, and at the end.
		{"abc", "Xabc", "abcY", "XabcY", true},
		{"abc", "abcY", "Xabc", "XabcY", true},
		{"a", "Xa", "aY", "XaY", true},
		// Both have it.
		{"", "x", "x", "x", true},
		{"abc", "", "", "", true},
		{"abc", "xyz", "xyz", "xyz", true},
		{"abc", "Xabc", "Xabc", "Xabc", true},
		{"abc", "abcX", "abcX", "abcX", true},
		{"abcdef", "Xbcdef", "XbcdeF", "XbcdeF", true},
		{"abcdef", "XbcdeF", "abcdeF", "XbcdeF", true},
		{"abcdef", "XbcDef", "abcDeF", "XbcDeF", true},
		{"abcdef", "XcDef", "XcdeF", "XcDeF", true},
		// One kept byte between.
		{"abc", "bc", "ab", "b", true},
		{"abc", "ab", "bc", "b", true},
		{"abc", "Xbc", "abX", "XbX", true},
		{"abc", "aXbc", "abYc", "aXbYc", true},
		// They touch.
		{"ab", "b", "a", "b", false},
		{"ab", "a", "b", "a", false},
		{"ab", "Xb", "aY", "Xb", false},
		{"abc", "aXbc", "ac", "aXbc", false},
		{"abc", "ac", "aXbc", "ac", false},
		{"abc", "abXc", "ac", "abXc", false},
		{"abc", "ac", "abXc", "ac", false},
		// At the same place.
		{"", "x", "y", "x", false},
		{"ab", "aXb", "aYb", "aXb", false},
		{"ab", "Xab", "Yab", "Xab", false},
		{"ab", "abX", "abY", "abX", false},
		{"ab", "aXb", "aXYb", "aXb", false},
		{"abc", "aXc", "aYc", "aXc", false},
		{"abc", "aXc", "ac", "aXc", false},
		// They lie over one another.
		{"abcdef", "af", "abXdef", "af", false},
		{"abcdef", "abXdef", "af", "abXdef", false},
		{"abcdef", "adef", "abef", "adef", false},
		{"abcdef", "abef", "adef", "abef", false},
		{"abcdef", "abcXYZdef", "af", "abcXYZdef", false},
		// One that both have, and others that touch.
		{"abcdef", "XbcDef", "XbcEef", "XbcDef", false},
		{"abcdef", "aXcdeY", "aZcdeY", "aXcdeY", false},
		// Far behind others that do not.
		{"abcdefgh", "Xbcdefg", "abYdefgH", "Xbcdefg", false},
	} {
		sameBoth(t, c.old, c.a, c.b, c.made, c.ok, api.OK)
	}
}

// 14.3: Both of many texts, as the words tell it.
func TestBothOfMany(t *testing.T) {
	few := texts(3, "ab")
	for _, old := range texts(4, "ab") {
		for _, a := range few {
			for _, b := range few {
				made, ok := bothTold(old, a, b)
				sameBoth(t, old, a, b, made, ok, api.OK)
			}
		}
	}
	d := drawn(4)
	told := map[bool]int{}
	for i := range 3000 {
		kinds := []string{"ab", "abcdefgh", "\x00\x80\xff", every()}[i%4]
		old := d.text(d.below(40), kinds)
		one := d.near(old, d.below(2), kinds)
		a, b := d.near(one, d.below(4), kinds), d.near(one, d.below(4), kinds)
		made, ok := bothTold(old, a, b)
		sameBoth(t, old, a, b, made, ok, api.OK)
		told[ok]++
	}
	if told[true] < 500 || told[false] < 500 {
		t.Errorf("of one kind there are few: %v", told)
	}
}

// 14.3: too many bytes of old and a, of old and b, of both; what is made may have more of them.
func TestBothOfMuch(t *testing.T) {
	half := api.MaxBytes / 2
	x, y := strings.Repeat("x", api.MaxBytes), strings.Repeat("y", api.MaxBytes)
	sameBoth(t, x[:half], x[:half], x[:half], x[:half], true, api.OK)
	sameBoth(t, x[:half], x[:half+1], x[:half], "", false, api.ErrLimit)
	sameBoth(t, x[:half], x[:half], x[:half+1], "", false, api.ErrLimit)
	sameBoth(t, x[:half], x[:half+1], x[:half+1], "", false, api.ErrLimit)
	sameBoth(t, x[:half+1], x[:half], "", "", false, api.ErrLimit)
	sameBoth(t, x[:half+1], "", x[:half], "", false, api.ErrLimit)
	sameBoth(t, "", x, x, x, true, api.OK)
	sameBoth(t, "", x, y, x, false, api.OK)
	sameBoth(t, "", x, "", x, true, api.OK)
	sameBoth(t, "", "", y, y, true, api.OK)
	sameBoth(t, "", x+"x", "", "", false, api.ErrLimit)
	sameBoth(t, "", "", y+"y", "", false, api.ErrLimit)
	sameBoth(t, x, "", "", "", true, api.OK)
	sameBoth(t, "a", x[2:]+"a", "a"+y[2:], x[2:]+"a"+y[2:], true, api.OK)
}

// P4: nothing that is handed in is written into, answers are the same again, and they share no memory.
func TestFreshAnswers(t *testing.T) {
	l := make(edits, 0, 8)
	l = append(l, keep(1), take(2), give("xy"), keep(1))
	before := slices.Clone(l[:cap(l)])
	back, _ := Back("abcd", l)
	Apply("abcd", l)
	want := slices.Clone(back)
	for i := range back {
		back[i] = api.Edit{What: 9}
	}
	again, err := Back("abcd", l)
	sameEdits(t, "Back once more", again, err, want, api.OK)
	if !slices.Equal(l[:cap(l)], before) {
		t.Errorf("the edits were written into: %v", l[:cap(l)])
	}
	one, _ := Edits("kitten", "sitting")
	wanted := slices.Clone(one)
	for i := range one {
		one[i] = api.Edit{What: 9}
	}
	two, err := Edits("kitten", "sitting")
	sameEdits(t, "Edits once more", two, err, wanted, api.OK)
}
