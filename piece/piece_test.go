package piece

import (
	"errors"
	"fmt"
	"math"
	"slices"
	"strings"
	"testing"

	"escritoire/api"
)

// ends are the least and the greatest numbers that there are, and those beside them.
var ends = []int{math.MinInt, math.MinInt + 1, math.MaxInt - 1, math.MaxInt}

// pieces are the pieces of a text, by a loop.
func pieces(t Text) []string {
	var l []string
	for p := range t.All() {
		l = append(l, p)
	}
	return l
}

// build is a text of just these pieces.
func build(t *testing.T, l ...string) Text {
	t.Helper()
	var u Text
	for _, p := range l {
		u = edited(t, u, u.Len(), 0, p)
	}
	if got := pieces(u); !slices.Equal(got, l) {
		t.Fatalf("pieces %q, want %q", got, l)
	}
	return u
}

// edited is an edit that has no error, and makes at most 2 pieces more.
func edited(t *testing.T, u Text, at, out int, in string) Text {
	t.Helper()
	v, err := u.Edit(at, out, in)
	if err != nil {
		t.Fatalf("%q.Edit(%d, %d, %q): %v", u, at, out, in, err)
	}
	before, _ := u.Parts()
	behind, _ := v.Parts()
	if behind > before+2 {
		t.Fatalf("%q.Edit(%d, %d, %q): %d pieces of %d", u, at, out, in, behind, before)
	}
	return v
}

// errs holds an error against the one that is wanted, which has no place.
func errs(t *testing.T, what string, err error, want api.Errno) {
	t.Helper()
	var a *api.At
	if api.Tell(err) != want || errors.As(err, &a) {
		t.Errorf("%s: error %v, want %v", what, err, want)
	}
}

// is holds all that a text tells against a string.
func is(t *testing.T, what string, u Text, want string) {
	t.Helper()
	if got := u.String(); got != want || u.Len() != len(want) {
		t.Fatalf("%s: %q, Len %d, want %q", what, got, u.Len(), want)
	}
	l := pieces(u)
	if slices.Contains(l, "") || strings.Join(l, "") != want {
		t.Fatalf("%s: pieces %q of %q", what, l, want)
	}
	for i := range len(want) {
		if c, err := u.At(i); c != want[i] || err != nil {
			t.Fatalf("%s: %q.At(%d) = %d, %v", what, want, i, c, err)
		}
	}
	n, deep := u.Parts()
	if n != len(l) || deep != deepest(u.top) {
		t.Fatalf("%s: Parts %d, %d, but there are %d, %d", what, n, deep, len(l), deepest(u.top))
	}
	if !shallow(n, deep) {
		t.Fatalf("%s: %d pieces are %d deep", what, n, deep)
	}
}

// deepest is how many pieces are gone through at most, counted one by one.
func deepest(n *node) int {
	if n == nil {
		return 0
	}
	return 1 + max(deepest(n.left), deepest(n.right))
}

// shallow says whether n pieces are no deeper than 2 log2 of n + 2, rounded up: deep - 1 is below that number, and so is 2 to that power below (n + 2) squared.
func shallow(n, deep int) bool {
	return deep == 0 || 1<<(deep-1) < (n+2)*(n+2)
}

// drawn is numbers that look drawn, the same each time.
type drawn uint64

func (d *drawn) below(most int) int {
	*d = *d*6364136223846793005 + 1442695040888963407
	return int(uint64(*d>>33) % uint64(most))
}

// wrong says whether an edit of a text of so many bytes is beyond it, as the words tell it.
func wrong(n, at, out int) bool {
	return at < 0 || at > n || out < 0 || at+out > n
}

// TestNone: 8.1: the zero value has no bytes, nor has Of of none.
func TestNone(t *testing.T) {
	for _, u := range []Text{{}, Of(""), edited(t, Of("ab"), 0, 2, ""), edited(t, Text{}, 0, 0, "")} {
		is(t, "none", u, "")
		if n, deep := u.Parts(); n != 0 || deep != 0 {
			t.Errorf("no bytes: Parts %d, %d", n, deep)
		}
		for p := range u.All() {
			t.Errorf("no bytes, but a piece %q", p)
		}
		_, err := u.At(0)
		errs(t, "At of no bytes", err, api.ErrRange)
		s, err := u.Slice(0, 0)
		if s != "" || err != nil {
			t.Errorf("Slice of no bytes: %q, %v", s, err)
		}
		_, err = u.Edit(0, 1, "")
		errs(t, "Edit of no bytes", err, api.ErrRange)
		_, err = u.Edit(1, 0, "a")
		errs(t, "Edit behind no bytes", err, api.ErrRange)
		is(t, "put in", edited(t, u, 0, 0, "abc"), "abc")
	}
}

// TestOf: 8.1: Of of texts of any length, beyond MaxBytes too, of any bytes.
func TestOf(t *testing.T) {
	for _, s := range []string{"a", "\x00", "\xff\xfe", "é\n", strings.Repeat("ab", api.MaxBytes/2), strings.Repeat("x", api.MaxBytes+1), strings.Repeat("abc", 100_000)} {
		is(t, "Of", Of(s), s)
	}
}

// TestAt: 8.1: bytes of one piece and of many, and beyond them.
func TestAt(t *testing.T) {
	for _, u := range []Text{Of("abcdef"), build(t, "a", "bc", "d", "ef")} {
		is(t, "At", u, "abcdef")
		for _, i := range append([]int{-2, -1, 6, 7, 1 << 40}, ends...) {
			c, err := u.At(i)
			errs(t, fmt.Sprintf("At(%d)", i), err, api.ErrRange)
			if c != 0 {
				t.Errorf("At(%d): %d beside an error", i, c)
			}
		}
	}
}

// TestSlice: 8.1: all from and to of texts in pieces of all kinds, and beyond them.
func TestSlice(t *testing.T) {
	for _, u := range []Text{Of("abcdef"), build(t, "a", "bc", "d", "ef"), build(t, "a", "b", "c", "d", "e", "f"), build(t, "abcde", "f")} {
		all := append([]int{-2, -1, 0, 1, 2, 3, 4, 5, 6, 7, 8}, ends...)
		for _, from := range all {
			for _, to := range all {
				s, err := u.Slice(from, to)
				if 0 <= from && from <= to && to <= 6 {
					if s != "abcdef"[from:to] || err != nil {
						t.Errorf("%q: Slice(%d, %d) = %q, %v", pieces(u), from, to, s, err)
					}
					continue
				}
				errs(t, fmt.Sprintf("Slice(%d, %d)", from, to), err, api.ErrRange)
				if s != "" {
					t.Errorf("Slice(%d, %d): %q beside an error", from, to, s)
				}
			}
		}
	}
}

// TestAll: 8.1: a loop may stop at any piece, and begin again.
func TestAll(t *testing.T) {
	want := []string{"a", "bc", "d", "ef", "g", "hij", "k"}
	u := build(t, want...)
	all := u.All()
	for stop := range len(want) + 1 {
		var got []string
		for p := range all {
			if len(got) == stop {
				break
			}
			got = append(got, p)
		}
		if !slices.Equal(got, want[:stop]) {
			t.Errorf("stopped at %d: %q, want %q", stop, got, want[:stop])
		}
		asked := 0
		all(func(string) bool {
			asked++
			return asked <= stop
		})
		if asked != min(stop+1, len(want)) {
			t.Errorf("asked %d times, stopped at %d", asked, stop)
		}
	}
	n := 0
	for range all {
		for range all {
			n++
		}
	}
	if n != len(want)*len(want) {
		t.Errorf("a loop in a loop: %d pieces", n)
	}
}

// TestAllByHand: P1: nobody asks for a piece.
func TestAllByHand(t *testing.T) {
	for _, u := range []Text{{}, Of("a"), build(t, "a", "bc")} {
		u.All()(nil)
	}
}

// TestEditAll: 8.1 and 8.2: all edits of texts in pieces of all kinds, right and wrong; each text stays what it was.
func TestEditAll(t *testing.T) {
	const was = "abcdef"
	for cuts := range 1 << (len(was) - 1) {
		l := []string{was[:1]}
		for i := 1; i < len(was); i++ {
			if cuts>>(i-1)&1 == 1 {
				l = append(l, "")
			}
			l[len(l)-1] += was[i : i+1]
		}
		u := build(t, l...)
		for at := -2; at <= len(was)+2; at++ {
			for out := -2; out <= len(was)+2; out++ {
				for _, in := range []string{"", "X", "YZ"} {
					what := fmt.Sprintf("%q.Edit(%d, %d, %q)", l, at, out, in)
					if wrong(len(was), at, out) {
						v, err := u.Edit(at, out, in)
						errs(t, what, err, api.ErrRange)
						is(t, what, v, "")
						continue
					}
					is(t, what, edited(t, u, at, out, in), was[:at]+in+was[at+out:])
					is(t, what+": what was edited", u, was)
				}
			}
		}
		if got := pieces(u); !slices.Equal(got, l) {
			t.Fatalf("pieces %q, which were %q", got, l)
		}
	}
}

// TestEditEnds: 8.1: the least and the greatest numbers are beyond any text.
func TestEditEnds(t *testing.T) {
	near := []int{-1, 0, 1, 3, 4}
	for _, u := range []Text{{}, Of("abc"), build(t, "a", "b", "c")} {
		for _, end := range ends {
			for _, n := range append(near, ends...) {
				for _, in := range []string{"", "x", strings.Repeat("x", api.MaxBytes+1)} {
					_, err := u.Edit(end, n, in)
					errs(t, fmt.Sprintf("Edit(%d, %d)", end, n), err, api.ErrRange)
					_, err = u.Edit(n, end, in)
					errs(t, fmt.Sprintf("Edit(%d, %d)", n, end), err, api.ErrRange)
				}
			}
		}
	}
}

// TestFull: 8.1: MaxBytes behind an edit, and one more; ErrRange is told ahead of ErrFull.
func TestFull(t *testing.T) {
	x := func(n int) string { return strings.Repeat("x", n) }
	for _, c := range []struct {
		was, at, out, in int
		want             api.Errno
	}{
		{0, 0, 0, api.MaxBytes, api.OK},
		{0, 0, 0, api.MaxBytes + 1, api.ErrFull},
		{3, 1, 0, api.MaxBytes - 3, api.OK},
		{3, 1, 0, api.MaxBytes - 2, api.ErrFull},
		{3, 1, 2, api.MaxBytes - 1, api.OK},
		{3, 1, 2, api.MaxBytes, api.ErrFull},
		{api.MaxBytes, 0, 0, 0, api.OK},
		{api.MaxBytes, 7, 0, 1, api.ErrFull},
		{api.MaxBytes, 7, 1, 1, api.OK},
		{api.MaxBytes, 7, 1, 2, api.ErrFull},
		{api.MaxBytes, api.MaxBytes, 0, 0, api.OK},
		{api.MaxBytes, api.MaxBytes, 0, 1, api.ErrFull},
		// A text of Of may have more, but not one that is edited, if nothing is edited, too.
		{api.MaxBytes + 1, 0, 0, 0, api.ErrFull},
		{api.MaxBytes + 1, 5, 1, 0, api.OK},
		{api.MaxBytes + 1, 5, 1, 1, api.ErrFull},
		{api.MaxBytes + 9, 5, 8, 0, api.ErrFull},
		{api.MaxBytes + 9, 5, 9, 0, api.OK},
		{api.MaxBytes * 30, 5, api.MaxBytes*30 - 10, 4, api.OK},
		{api.MaxBytes * 30, 0, api.MaxBytes * 30, api.MaxBytes, api.OK},
		{api.MaxBytes * 30, 0, api.MaxBytes * 30, api.MaxBytes + 1, api.ErrFull},
		{3, 2, 2, api.MaxBytes, api.ErrRange},
		{3, 4, 0, api.MaxBytes, api.ErrRange},
		{3, -1, 0, api.MaxBytes, api.ErrRange},
		{3, 0, -1, api.MaxBytes, api.ErrRange},
		{api.MaxBytes + 1, 0, api.MaxBytes + 2, 0, api.ErrRange},
		{api.MaxBytes + 1, api.MaxBytes + 2, 0, 0, api.ErrRange},
	} {
		u := Of(x(c.was))
		v, err := u.Edit(c.at, c.out, x(c.in))
		errs(t, fmt.Sprint(c), err, c.want)
		if err == nil {
			is(t, fmt.Sprint(c), v, x(c.was-c.out+c.in))
		} else if v != (Text{}) {
			t.Errorf("%v: a text of %d bytes beside an error", c, v.Len())
		}
		is(t, fmt.Sprint(c), u, x(c.was))
	}
}

// TestStays: 8.1: each text stays what it was, whatever is made of it, and of what was made of it; 8.2 holds of all of them.
func TestStays(t *testing.T) {
	d := drawn(5)
	for range 30 {
		all, want := []Text{{}}, []string{""}
		for range 100 {
			// Now one of the last ones, now any one: some grow long, some are edited in many ways.
			k := len(all) - 1 - d.below(min(len(all), 1+d.below(len(all))))
			n := len(want[k])
			at := d.below(n + 1)
			out := d.below(n - at + 1)
			if d.below(3) > 0 {
				out = min(out, d.below(5))
			}
			in := "abcdefghijklmnopqrst"[d.below(10):][:d.below(11)]
			all = append(all, edited(t, all[k], at, out, in))
			want = append(want, want[k][:at]+in+want[k][at+out:])
		}
		for i, u := range all {
			is(t, "a text that was edited", u, want[i])
			from := d.below(u.Len() + 1)
			to := from + d.below(u.Len()-from+1)
			if s, err := u.Slice(from, to); s != want[i][from:to] || err != nil {
				t.Fatalf("%q: Slice(%d, %d) = %q, %v", want[i], from, to, s, err)
			}
		}
	}
}

// even says whether no piece stands above two trees of which one is deeper by more than 1.
func even(n *node) bool {
	if n == nil {
		return true
	}
	d := deepest(n.left) - deepest(n.right)
	return -1 <= d && d <= 1 && even(n.left) && even(n.right)
}

// TestDeep: 8.2: many edits at one place, at the beginning, at the end and all over; then bytes are taken out again, in as many ways.
func TestDeep(t *testing.T) {
	d := drawn(9)
	for _, c := range []struct {
		what  string
		place func(n int) int
	}{
		{"at the beginning", func(n int) int { return 0 }},
		{"at the end", func(n int) int { return n }},
		{"at one place", func(n int) int { return min(n, 5) }},
		{"in the middle", func(n int) int { return n / 2 }},
		{"one ahead of the end", func(n int) int { return max(n-1, 0) }},
		{"now at the beginning, now in the middle", func(n int) int { return n / 2 * (n / 2 % 2) }},
		{"all over", func(n int) int { return d.below(n + 1) }},
	} {
		u, want := Text{}, ""
		for i := range api.MaxBytes / 2 {
			at := c.place(len(want))
			in := "abcdefghijklmnopqrstuvwxyz"[i%25:][:2]
			u, want = edited(t, u, at, 0, in), want[:at]+in+want[at:]
			if n, deep := u.Parts(); !shallow(n, deep) || deep != deepest(u.top) {
				t.Fatalf("%s: %d pieces, %d deep", c.what, n, deep)
			}
		}
		is(t, c.what, u, want)
		if !even(u.top) {
			t.Fatalf("%s: not even", c.what)
		}
		for len(want) > 0 {
			at := min(c.place(len(want)), len(want)-1)
			out := min(1+d.below(30), len(want)-at)
			u, want = edited(t, u, at, out, ""), want[:at]+want[at+out:]
			is(t, c.what+", taken out", u, want)
			if !even(u.top) {
				t.Fatalf("%s, taken out: %q isn't even", c.what, pieces(u))
			}
		}
	}
}

// TestJoined: 8.2: what is left and right of what is taken out may be of quite another depth; all places of a text of many pieces, and what stands ahead of each, behind it, and without some.
func TestJoined(t *testing.T) {
	u, want := Text{}, ""
	for i := range 150 {
		in := string([]byte{byte(i), 255 - byte(i)})
		u, want = edited(t, u, len(want), 0, in), want+in
	}
	for at := range len(want) + 1 {
		for _, v := range []struct {
			out int
			in  string
		}{{0, ""}, {0, "x"}, {1, ""}, {2, "x"}, {7, ""}, {40, "xyz"}, {150, ""}, {299, "x"}, {300, ""}} {
			if at+v.out > len(want) {
				continue
			}
			w := edited(t, u, at, v.out, v.in)
			is(t, "joined", w, want[:at]+v.in+want[at+v.out:])
			if !even(w.top) {
				t.Fatalf("Edit(%d, %d, %q) isn't even", at, v.out, v.in)
			}
		}
		is(t, "ahead", edited(t, u, at, len(want)-at, ""), want[:at])
		is(t, "behind", edited(t, u, 0, at, ""), want[at:])
	}
}

// TestNothing: 8.2: an edit of nothing makes no pieces more.
func TestNothing(t *testing.T) {
	u := build(t, "abc", "def")
	for at := range 7 {
		if v := edited(t, u, at, 0, ""); v != u {
			t.Errorf("an edit of nothing at %d: pieces %q", at, pieces(v))
		}
	}
}
