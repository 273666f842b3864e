package spans

import (
	"fmt"
	"math"
	"slices"
	"testing"

	"escritoire/api"
)

// most is the greatest place, and the greatest length, of which the document promises anything.
const most = 1 << 40

// list is spans of numbers: where each one begins, and ends.
func list(n ...int) []api.Span {
	var l []api.Span
	for i := 0; i < len(n); i += 2 {
		l = append(l, api.Span{From: n[i], To: n[i+1]})
	}
	return l
}

// same holds spans against those that are wanted, which are Right.
func same(t *testing.T, what string, got, want []api.Span) {
	t.Helper()
	if !slices.Equal(got, want) {
		t.Errorf("%s = %v, want %v", what, got, want)
	}
	if !Right(got) {
		t.Errorf("%s = %v, which isn't Right", what, got)
	}
}

// has is Has, as the words tell it.
func has(l []api.Span, at int) bool {
	found := false
	for _, s := range l {
		for p := s.From; p < s.To; p++ {
			found = found || p == at
		}
	}
	return found
}

// row is the spans of those places from 0 to n - 1 of which in is true.
func row(n int, in func(p int) bool) []api.Span {
	var l []api.Span
	for p := range n {
		switch {
		case !in(p):
		case p > 0 && in(p-1):
			l[len(l)-1].To++
		default:
			l = append(l, api.Span{From: p, To: p + 1})
		}
	}
	return l
}

// short goes through all lists of up to two spans whose numbers are from -2 to 5.
func short(do func(l []api.Span)) {
	var all []api.Span
	for from := -2; from <= 5; from++ {
		for to := -2; to <= 5; to++ {
			all = append(all, api.Span{From: from, To: to})
		}
	}
	do(nil)
	for _, a := range all {
		do([]api.Span{a})
		for _, b := range all {
			do([]api.Span{a, b})
		}
	}
}

// drawn goes through lists that look drawn, the same each time: of up to seven spans, of numbers from -4 to 27.
func drawn(times int, do func(a, b []api.Span, n int)) {
	n := uint64(7)
	number := func(most int) int {
		n = n*6364136223846793005 + 1442695040888963407
		return int((n >> 33) % uint64(most))
	}
	some := func() []api.Span {
		var l []api.Span
		for range number(8) {
			from := number(26) - 4
			l = append(l, api.Span{From: from, To: from + number(8) - 1})
		}
		return l
	}
	for range times {
		do(some(), some(), number(36)-3)
	}
}

// 7.1: what is Right, and what each of its words rules out.
func TestRight(t *testing.T) {
	for _, x := range []struct {
		l    []api.Span
		want bool
	}{
		{nil, true},
		{[]api.Span{}, true},
		{list(0, 1), true},
		{list(3, 9), true},
		{list(0, 1, 2, 3), true},
		{list(0, 4, 5, 6, 90, 91), true},
		{list(most-1, most), true},
		{list(0, most), true},
		{list(0, math.MaxInt), true},
		{list(0, 1, math.MaxInt-1, math.MaxInt), true},
		{list(0, 0), false},
		{list(4, 4), false},
		{list(4, 3), false},
		{list(1, 0), false},
		{list(-1, 0), false},
		{list(-1, 1), false},
		{list(-5, -2), false},
		{list(-5, -2, 0, 1), false},
		{list(0, 2, 2, 3), false},
		{list(0, 2, 1, 3), false},
		{list(0, 9, 3, 4), false},
		{list(2, 4, 2, 4), false},
		{list(5, 6, 0, 1), false},
		{list(0, 1, 3, 3), false},
		{list(0, 1, 4, 3), false},
		{list(0, 0, 2, 3), false},
		{list(0, 1, 2, 3, 3, 4), false},
		{list(0, 1, 2, 3, -5, 9), false},
		{list(math.MinInt, math.MinInt), false},
		{list(math.MinInt, math.MaxInt), false},
		{list(math.MaxInt, math.MaxInt), false},
		{list(math.MaxInt, math.MinInt), false},
		{list(0, math.MinInt), false},
		{list(0, math.MaxInt, math.MinInt, 5), false},
		{list(0, math.MaxInt, math.MaxInt, math.MaxInt), false},
	} {
		if got := Right(x.l); got != x.want {
			t.Errorf("Right(%v) = %v", x.l, got)
		}
	}
}

// 7.1: Of, and Size of the same spans.
func TestOfAndSize(t *testing.T) {
	for _, x := range []struct {
		l, want []api.Span
		size    int
	}{
		{nil, nil, 0},
		{[]api.Span{}, nil, 0},
		{list(3, 9), list(3, 9), 6},
		{list(0, 1), list(0, 1), 1},
		// In order, and out of it.
		{list(1, 2, 4, 6, 8, 9), list(1, 2, 4, 6, 8, 9), 4},
		{list(8, 9, 1, 2, 4, 6), list(1, 2, 4, 6, 8, 9), 4},
		{list(8, 9, 4, 6, 1, 2), list(1, 2, 4, 6, 8, 9), 4},
		// Touching, over one another, one within the other, alike.
		{list(1, 3, 3, 5), list(1, 5), 4},
		{list(3, 5, 1, 3), list(1, 5), 4},
		{list(1, 3, 4, 5), list(1, 3, 4, 5), 3},
		{list(1, 4, 3, 6), list(1, 6), 5},
		{list(1, 9, 3, 5), list(1, 9), 8},
		{list(3, 5, 1, 9), list(1, 9), 8},
		{list(1, 9, 1, 5), list(1, 9), 8},
		{list(1, 5, 1, 9), list(1, 9), 8},
		{list(1, 9, 5, 9), list(1, 9), 8},
		{list(2, 4, 2, 4, 2, 4), list(2, 4), 2},
		{list(0, 9, 1, 2, 3, 4, 8, 12), list(0, 12), 12},
		{list(4, 6, 0, 2, 2, 4), list(0, 6), 6},
		// What has no place makes none touch.
		{list(4, 4), nil, 0},
		{list(5, 2), nil, 0},
		{list(0, 0, 1, 0), nil, 0},
		{list(1, 2, 2, 2, 3, 4), list(1, 2, 3, 4), 2},
		{list(1, 2, 3, 2, 3, 4), list(1, 2, 3, 4), 2},
		{list(9, 1, 3, 4), list(3, 4), 1},
		// Below 0.
		{list(-3, 2), list(0, 2), 2},
		{list(-3, 1, -2, 2), list(0, 2), 2},
		{list(-3, -1), nil, 0},
		{list(-3, 0), nil, 0},
		{list(-3, 0, 0, 1), list(0, 1), 1},
		{list(-3, 0, 1, 2), list(1, 2), 1},
		{list(-1, -4), nil, 0},
		{list(2, -4), nil, 0},
		{list(4, 5, -9, -8, -7, 1), list(0, 1, 4, 5), 2},
		// The greatest of which anything is promised.
		{list(0, most), list(0, most), most},
		{list(most-1, most, 0, 1), list(0, 1, most-1, most), 2},
		{list(most/2, most, 0, most/2), list(0, most), most},
		// The least and the greatest that there are.
		{list(math.MinInt, math.MaxInt), list(0, math.MaxInt), math.MaxInt},
		{list(0, math.MaxInt), list(0, math.MaxInt), math.MaxInt},
		{list(math.MaxInt, math.MinInt), nil, 0},
		{list(math.MinInt, math.MinInt), nil, 0},
		{list(math.MaxInt, math.MaxInt), nil, 0},
		{list(math.MinInt, 0), nil, 0},
		{list(0, math.MinInt), nil, 0},
		{list(math.MinInt, 1, 3, 4), list(0, 1, 3, 4), 2},
		{list(math.MaxInt-1, math.MaxInt, math.MinInt, 1), list(0, 1, math.MaxInt-1, math.MaxInt), 2},
		{list(5, math.MaxInt, math.MinInt, 5, 7, math.MaxInt), list(0, math.MaxInt), math.MaxInt},
	} {
		same(t, fmt.Sprintf("Of(%v)", x.l), Of(x.l), x.want)
		if got := Size(x.l); got != x.size {
			t.Errorf("Size(%v) = %d, want %d", x.l, got, x.size)
		}
	}
}

// 7.1: Has, at both ends of spans, and wherever else.
func TestHas(t *testing.T) {
	for _, x := range []struct {
		l    []api.Span
		at   int
		want bool
	}{
		{nil, 0, false},
		{nil, 5, false},
		{list(3, 6), 2, false},
		{list(3, 6), 3, true},
		{list(3, 6), 5, true},
		{list(3, 6), 6, false},
		{list(0, 1), 0, true},
		{list(0, 1), 1, false},
		{list(0, 1), -1, false},
		{list(1, 2), 0, false},
		{list(4, 4), 4, false},
		{list(5, 2), 3, false},
		{list(5, 2), 2, false},
		{list(5, 2), 5, false},
		// Whichever it is in, in whichever order.
		{list(8, 9, 1, 3, 4, 6), 8, true},
		{list(8, 9, 1, 3, 4, 6), 2, true},
		{list(8, 9, 1, 3, 4, 6), 4, true},
		{list(8, 9, 1, 3, 4, 6), 3, false},
		{list(8, 9, 1, 3, 4, 6), 7, false},
		{list(1, 3, 3, 5), 3, true},
		{list(1, 9, 3, 5), 5, true},
		{list(3, 3, 3, 4), 3, true},
		// A span has its places below 0, too.
		{list(-3, 2), 0, true},
		{list(-3, 2), -1, true},
		{list(-3, 2), -3, true},
		{list(-3, 2), -4, false},
		{list(-3, -1), -2, true},
		{list(-3, -1), -1, false},
		{list(-3, -1), 0, false},
		{list(0, most), most - 1, true},
		{list(0, most), most, false},
		{list(math.MinInt, math.MaxInt), math.MinInt, true},
		{list(math.MinInt, math.MaxInt), 0, true},
		{list(math.MinInt, math.MaxInt), math.MaxInt - 1, true},
		{list(math.MinInt, math.MaxInt), math.MaxInt, false},
		{list(math.MinInt+1, 0), math.MinInt, false},
		{list(math.MinInt, math.MinInt), math.MinInt, false},
		{list(math.MinInt, math.MinInt), 0, false},
		{list(0, math.MinInt), 0, false},
		{list(math.MaxInt, math.MaxInt), math.MaxInt, false},
		{list(math.MaxInt, math.MinInt), 0, false},
	} {
		if got := Has(x.l, x.at); got != x.want {
			t.Errorf("Has(%v, %d) = %v", x.l, x.at, got)
		}
	}
}

// 7.1: Or and And, of both lists either way round.
func TestOrAndAnd(t *testing.T) {
	for _, x := range []struct{ a, b, or, and []api.Span }{
		{nil, nil, nil, nil},
		{list(1, 3), nil, list(1, 3), nil},
		{list(1, 3), list(1, 3), list(1, 3), list(1, 3)},
		{list(1, 3), list(5, 6), list(1, 3, 5, 6), nil},
		{list(1, 3), list(3, 6), list(1, 6), nil},
		{list(1, 4), list(3, 6), list(1, 6), list(3, 4)},
		{list(1, 9), list(3, 6), list(1, 9), list(3, 6)},
		{list(1, 9), list(1, 6), list(1, 9), list(1, 6)},
		{list(1, 9), list(6, 9), list(1, 9), list(6, 9)},
		{list(0, 1), list(0, 9), list(0, 9), list(0, 1)},
		{list(1, 3, 5, 7), list(3, 5), list(1, 7), nil},
		{list(1, 3, 5, 7), list(2, 6), list(1, 7), list(2, 3, 5, 6)},
		{list(0, 9), list(1, 2, 4, 6, 8, 12), list(0, 12), list(1, 2, 4, 6, 8, 9)},
		{list(0, 2, 4, 6, 8, 10), list(1, 5, 9, 12), list(0, 6, 8, 12), list(1, 2, 4, 5, 9, 10)},
		// Out of order, over one another, and alike within one list.
		{list(5, 7, 1, 3), list(6, 9, 2, 6), list(1, 9), list(2, 3, 5, 7)},
		{list(1, 3, 3, 5), list(2, 4), list(1, 5), list(2, 4)},
		{list(1, 3, 2, 5, 1, 3), list(4, 6, 4, 6), list(1, 6), list(4, 5)},
		// Places that stand twice in one list are not in both.
		{list(1, 5, 2, 4), list(7, 8), list(1, 5, 7, 8), nil},
		// What has no place, and what is below 0.
		{list(4, 4, 6, 2), list(0, 9), list(0, 9), nil},
		{list(4, 4), list(6, 2), nil, nil},
		{list(-5, 2), list(-3, 1), list(0, 2), list(0, 1)},
		{list(-5, -1), list(-3, -1), nil, nil},
		{list(-5, 0), list(0, 2), list(0, 2), nil},
		{list(0, most), list(most-1, most), list(0, most), list(most-1, most)},
		{list(math.MinInt, math.MaxInt), list(3, 5), list(0, math.MaxInt), list(3, 5)},
		{list(math.MinInt, 4), list(3, math.MaxInt), list(0, math.MaxInt), list(3, 4)},
		{list(math.MinInt, math.MaxInt), list(math.MinInt, math.MaxInt), list(0, math.MaxInt), list(0, math.MaxInt)},
		{list(math.MaxInt, math.MinInt), list(0, math.MinInt), nil, nil},
		{list(math.MaxInt-1, math.MaxInt), list(math.MinInt, 0), list(math.MaxInt-1, math.MaxInt), nil},
	} {
		same(t, "Or", Or(x.a, x.b), x.or)
		same(t, "Or", Or(x.b, x.a), x.or)
		same(t, "And", And(x.a, x.b), x.and)
		same(t, "And", And(x.b, x.a), x.and)
	}
}

// 7.1: Not, with n below 0, of 0, within a span, at its ends, and beyond all.
func TestNot(t *testing.T) {
	l := list(5, 7, 1, 3)
	for _, x := range []struct {
		l    []api.Span
		n    int
		want []api.Span
	}{
		{nil, 0, nil},
		{nil, -1, nil},
		{nil, 1, list(0, 1)},
		{nil, 9, list(0, 9)},
		{l, math.MinInt, nil},
		{l, -1, nil},
		{l, 0, nil},
		{l, 1, list(0, 1)},
		{l, 2, list(0, 1)},
		{l, 3, list(0, 1)},
		{l, 4, list(0, 1, 3, 4)},
		{l, 5, list(0, 1, 3, 5)},
		{l, 6, list(0, 1, 3, 5)},
		{l, 7, list(0, 1, 3, 5)},
		{l, 8, list(0, 1, 3, 5, 7, 8)},
		{l, most, list(0, 1, 3, 5, 7, most)},
		{l, math.MaxInt, list(0, 1, 3, 5, 7, math.MaxInt)},
		{list(0, 4), 4, nil},
		{list(0, 4), 3, nil},
		{list(0, 4), 5, list(4, 5)},
		{list(0, 2, 2, 4), 6, list(4, 6)},
		{list(1, 9, 3, 5), 12, list(0, 1, 9, 12)},
		{list(3, 3, 9, 2), 12, list(0, 12)},
		{list(-5, 2), 4, list(2, 4)},
		{list(-5, -2), 4, list(0, 4)},
		{list(-5, 0), 4, list(0, 4)},
		{list(-5, -2), -3, nil},
		{list(0, most), most, nil},
		{list(1, most), most, list(0, 1)},
		{list(math.MinInt, math.MaxInt), math.MaxInt, nil},
		{list(math.MinInt, math.MaxInt), math.MinInt, nil},
		{list(math.MinInt, 1), math.MaxInt, list(1, math.MaxInt)},
		{list(math.MinInt, 0), 1, list(0, 1)},
		{list(1, math.MaxInt), math.MaxInt, list(0, 1)},
		{list(math.MaxInt, math.MinInt), math.MaxInt, list(0, math.MaxInt)},
		{list(math.MaxInt-1, math.MaxInt), math.MaxInt, list(0, math.MaxInt-1)},
	} {
		same(t, fmt.Sprintf("Not(%v, %d)", x.l, x.n), Not(x.l, x.n), x.want)
	}
}

// 7.1: all short lists, and longer ones that are drawn, held against places that are looked at one by one.
func TestPlacesOneByOne(t *testing.T) {
	check := func(l []api.Span, n int) {
		t.Helper()
		want := row(40, func(p int) bool { return has(l, p) })
		same(t, "Of", Of(l), want)
		same(t, "Not", Not(l, n), row(max(n, 0), func(p int) bool { return !has(l, p) }))
		if got := Right(l); got != slices.Equal(l, want) {
			t.Errorf("Right(%v) = %v", l, got)
		}
		size := 0
		for at := -5; at < 40; at++ {
			if got := Has(l, at); got != has(l, at) {
				t.Errorf("Has(%v, %d) = %v", l, at, got)
			}
			if at >= 0 && has(l, at) {
				size++
			}
		}
		if got := Size(l); got != size {
			t.Errorf("Size(%v) = %d, want %d", l, got, size)
		}
	}
	short(func(l []api.Span) {
		check(l, 7)
	})
	drawn(3000, func(a, b []api.Span, n int) {
		check(a, n)
		same(t, "Or", Or(a, b), row(40, func(p int) bool { return has(a, p) || has(b, p) }))
		same(t, "And", And(a, b), row(40, func(p int) bool { return has(a, p) && has(b, p) }))
	})
}

// 7.1: places are an algebra.
func TestAlgebra(t *testing.T) {
	const n = 40
	drawn(3000, func(a, b []api.Span, at int) {
		same(t, "Of what Of is", Of(Of(a)), Of(a))
		same(t, "what isn't not there", Not(Not(a, n), n), Of(a))
		same(t, "Or, by And", Not(And(Not(a, n), Not(b, n)), n), Or(a, b))
		same(t, "And, by Or", Not(Or(Not(a, n), Not(b, n)), n), And(a, b))
		same(t, "what is in a, or in a and b", Or(a, And(a, b)), Of(a))
		same(t, "what is in a, and in a or b", And(a, Or(a, b)), Of(a))
		same(t, "what is there or isn't", Or(a, Not(a, n)), list(0, n))
		same(t, "what is there and isn't", And(a, Not(a, n)), nil)
		if Size(a)+Size(b) != Size(Or(a, b))+Size(And(a, b)) {
			t.Errorf("%v and %v have %d and %d places, %d in all, %d in both", a, b, Size(a), Size(b), Size(Or(a, b)), Size(And(a, b)))
		}
	})
}

// P1: of many spans an answer comes soon.
func TestManySpans(t *testing.T) {
	const many = 100_000
	var a, b []api.Span
	for i := range many {
		// From the last one to the first one; between each two of them there is a place.
		a = append(a, api.Span{From: 4 * (many - 1 - i), To: 4*(many-1-i) + 3})
		b = append(b, api.Span{From: 4*i + 2, To: 4*i + 4})
	}
	row := slices.Clone(a)
	slices.Reverse(row)
	same(t, "Of", Of(a), row)
	same(t, "Or", Or(a, b), list(0, 4*many))
	if got := Size(And(a, b)); got != many {
		t.Errorf("%d places are in both", got)
	}
	if got := Not(a, 4*many); len(got) != many || Size(got) != many {
		t.Errorf("%d places in %d spans are not there", Size(got), len(got))
	}
	if got := Shift(a, 1, 0, 1); Size(got) != 3*many+1 || len(got) != many {
		t.Errorf("Shift: %d places in %d spans", Size(got), len(got))
	}
}

// 7.2: Moved: p right below at, at it, in the last byte that is taken out, and behind it.
func TestMoved(t *testing.T) {
	for _, x := range []struct{ p, at, out, in, want int }{
		// Nothing is taken out, and nothing put in.
		{4, 5, 0, 0, 4}, {5, 5, 0, 0, 5}, {6, 5, 0, 0, 6},
		{0, 0, 0, 0, 0},
		// Something is put in.
		{4, 5, 0, 3, 4}, {5, 5, 0, 3, 8}, {6, 5, 0, 3, 9},
		{0, 0, 0, 1, 1},
		// Something is taken out.
		{4, 5, 3, 0, 4}, {5, 5, 3, 0, 5}, {6, 5, 3, 0, 5}, {7, 5, 3, 0, 5}, {8, 5, 3, 0, 5}, {9, 5, 3, 0, 6},
		{0, 0, 1, 0, 0}, {1, 0, 1, 0, 0}, {2, 0, 1, 0, 1},
		// Both: in is smaller than p - at, as much, and greater.
		{4, 5, 4, 2, 4}, {5, 5, 4, 2, 5}, {6, 5, 4, 2, 6}, {7, 5, 4, 2, 7}, {8, 5, 4, 2, 7}, {9, 5, 4, 2, 7}, {10, 5, 4, 2, 8},
		{5, 5, 4, 4, 5}, {7, 5, 4, 4, 7}, {8, 5, 4, 4, 8}, {9, 5, 4, 4, 9},
		{5, 5, 4, 6, 5}, {7, 5, 4, 6, 7}, {8, 5, 4, 6, 8}, {9, 5, 4, 6, 11}, {10, 5, 4, 6, 12},
		{5, 5, 4, 1, 5}, {6, 5, 4, 1, 6}, {7, 5, 4, 1, 6}, {8, 5, 4, 1, 6}, {9, 5, 4, 1, 6},
		// Below 0 is below at.
		{-1, 0, 0, 3, -1}, {-7, 5, 3, 9, -7}, {math.MinInt, 0, 5, 5, math.MinInt},
		// The greatest of which anything is promised.
		{most, most, most, most, most}, {most, 0, most, 0, 0}, {most, 0, most, most, most}, {most, 0, 0, most, 2 * most},
		{most - 1, most, most, 0, most - 1}, {most - 1, 0, most, 5, 5}, {most - 1, 0, most, most, most - 1},
		{0, 0, most, most, 0}, {3 * most, most, most, 0, 2 * most},
		// The greatest that there are, where the answer is a number.
		{math.MaxInt, 5, 3, 0, math.MaxInt - 3}, {math.MaxInt, 5, 3, 3, math.MaxInt}, {math.MaxInt, 5, 0, 0, math.MaxInt},
		{math.MaxInt, 0, math.MaxInt, 7, 7}, {7, 5, math.MaxInt, 1, 6}, {7, 5, math.MaxInt, math.MaxInt, 7},
		{math.MaxInt - 1, math.MaxInt, math.MaxInt, math.MaxInt, math.MaxInt - 1}, {math.MaxInt, math.MaxInt, math.MaxInt, math.MaxInt, math.MaxInt},
	} {
		if got := Moved(x.p, x.at, x.out, x.in); got != x.want {
			t.Errorf("Moved(%d, %d, %d, %d) = %d, want %d", x.p, x.at, x.out, x.in, got, x.want)
		}
	}
}

// edits goes through all edits of short texts.
func edits(do func(at, out, in int)) {
	for at := range 9 {
		for out := range 6 {
			for in := range 6 {
				do(at, out, in)
			}
		}
	}
}

// edited is places 0 to 19 of a text, as an edit leaves them: -1 for each byte that is put in.
func edited(at, out, in int) []int {
	var l []int
	for p := range 20 {
		l = append(l, p)
	}
	return slices.Replace(l, at, at+out, slices.Repeat([]int{-1}, in)...)
}

// 7.2: bytes that stay are where Moved says; those that are taken out come, in order, to those that are put in, or right behind them.
func TestMovedWithItsByte(t *testing.T) {
	edits(func(at, out, in int) {
		l := edited(at, out, in)
		for p := range 20 {
			got := Moved(p, at, out, in)
			want := slices.Index(l, p)
			if want < 0 {
				want = at + in
				if p-at < in {
					want = p
				}
			}
			if got != want {
				t.Errorf("Moved(%d, %d, %d, %d) = %d, want %d", p, at, out, in, got, want)
			}
		}
	})
}

// 7.2: Shift of spans that stay, that an edit makes touch, makes one, and leaves with no place.
func TestShift(t *testing.T) {
	for _, x := range []struct {
		l           []api.Span
		at, out, in int
		want        []api.Span
	}{
		{nil, 0, 0, 0, nil},
		{nil, 3, 2, 5, nil},
		{list(1, 3, 5, 7), 4, 0, 0, list(1, 3, 5, 7)},
		// Ahead of a span, behind it, within it, and at its ends.
		{list(3, 6), 0, 0, 2, list(5, 8)},
		{list(3, 6), 0, 2, 0, list(1, 4)},
		{list(3, 6), 2, 0, 2, list(5, 8)},
		{list(3, 6), 3, 0, 2, list(5, 8)},
		{list(3, 6), 4, 0, 2, list(3, 8)},
		{list(3, 6), 6, 0, 2, list(3, 8)},
		{list(3, 6), 7, 0, 2, list(3, 6)},
		{list(3, 6), 7, 5, 9, list(3, 6)},
		{list(0, 1), 0, 0, 1, list(1, 2)},
		{list(3, 6), 3, 1, 0, list(3, 5)},
		{list(3, 6), 4, 1, 0, list(3, 5)},
		{list(3, 6), 5, 1, 0, list(3, 5)},
		{list(3, 6), 6, 1, 0, list(3, 6)},
		{list(3, 6), 2, 1, 0, list(2, 5)},
		{list(3, 6), 2, 2, 0, list(2, 4)},
		{list(3, 6), 5, 4, 0, list(3, 5)},
		{list(3, 6), 4, 1, 3, list(3, 8)},
		{list(3, 6), 2, 2, 1, list(3, 5)},
		{list(3, 6), 2, 2, 4, list(3, 8)},
		{list(3, 6), 5, 4, 2, list(3, 6)},
		{list(3, 6), 5, 4, 1, list(3, 6)},
		// It lies within what is taken out, wholly.
		{list(3, 6), 3, 3, 0, nil},
		{list(3, 6), 0, 9, 0, nil},
		{list(3, 6), 0, 9, 3, nil},
		{list(3, 6), 0, 9, 4, list(3, 4)},
		{list(3, 6), 0, 9, 6, list(3, 6)},
		{list(3, 6), 0, 9, 20, list(3, 6)},
		{list(3, 6), 3, 3, 5, list(3, 8)},
		{list(3, 6), 3, 3, 1, list(3, 4)},
		{list(3, 4, 6, 7), 3, 1, 0, list(5, 6)},
		{list(1, 2, 4, 5, 7, 8), 3, 3, 0, list(1, 2, 4, 5)},
		// Two come to touch, and are one.
		{list(1, 3, 5, 7), 3, 2, 0, list(1, 5)},
		{list(1, 3, 5, 7), 2, 4, 0, list(1, 3)},
		{list(1, 3, 5, 7), 2, 4, 1, list(1, 4)},
		{list(1, 3, 5, 7), 3, 1, 0, list(1, 3, 4, 6)},
		{list(1, 3, 4, 7), 3, 0, 2, list(1, 5, 6, 9)},
		{list(1, 3, 4, 7), 3, 1, 2, list(1, 3, 5, 8)},
		{list(1, 2, 3, 4, 5, 6), 2, 3, 0, list(1, 3)},
		{list(1, 2, 3, 4, 5, 6), 2, 3, 1, list(1, 2, 3, 4)},
		// It is Of(l) whose spans are moved: those that touch are one ahead of the edit.
		{list(1, 3, 3, 5), 3, 0, 2, list(1, 7)},
		{list(5, 7, 1, 3), 0, 0, 1, list(2, 4, 6, 8)},
		{list(3, 5, 1, 9, 3, 5), 4, 0, 1, list(1, 10)},
		{list(-4, 2), 0, 0, 3, list(3, 5)},
		{list(-4, -2), 0, 0, 3, nil},
		{list(-4, 0), 0, 0, 3, nil},
		{list(4, 4, 5, 2), 3, 0, 9, nil},
		{list(0, most), 5, 0, most, list(0, 2*most)},
		{list(0, most), 0, most, 0, nil},
		{list(most-1, most), 0, most - 1, 0, list(0, 1)},
		{list(math.MinInt, math.MaxInt), 5, 3, 0, list(0, math.MaxInt-3)},
		{list(math.MinInt, math.MaxInt), 0, 4, 4, list(0, math.MaxInt)},
		{list(math.MinInt, 5), 9, 4, 7, list(0, 5)},
		{list(math.MaxInt, math.MinInt), 0, 4, 7, nil},
		{list(math.MaxInt-1, math.MaxInt), 0, 4, 2, list(math.MaxInt-3, math.MaxInt-2)},
	} {
		what := fmt.Sprintf("Shift(%v, %d, %d, %d)", x.l, x.at, x.out, x.in)
		same(t, what, Shift(x.l, x.at, x.out, x.in), x.want)
	}
}

// 7.2: a byte that an edit leaves is in the spans behind it just if it was in those ahead of it; and spans lie from where their ends are moved to.
func TestShiftGoesWithBytes(t *testing.T) {
	check := func(l []api.Span, at, out, in int) {
		t.Helper()
		got := Shift(l, at, out, in)
		for i, p := range edited(at, out, in) {
			if p >= 0 && Has(got, i) != Has(l, p) {
				t.Errorf("Shift(%v, %d, %d, %d) = %v: byte %d, which was %d", l, at, out, in, got, i, p)
			}
		}
		var moved []api.Span
		for _, s := range Of(l) {
			moved = append(moved, api.Span{From: Moved(s.From, at, out, in), To: Moved(s.To, at, out, in)})
		}
		same(t, "Shift", got, row(40, func(p int) bool { return has(moved, p) }))
	}
	drawn(300, func(a, b []api.Span, n int) {
		edits(func(at, out, in int) {
			check(a, at, out, in)
		})
	})
}

// P1: whatever is given, every call ends, and none panics; what comes out is Right.
func TestWhateverIsGiven(t *testing.T) {
	ends := []int{math.MinInt, math.MinInt + 1, -most, -1, 0, 1, most, math.MaxInt - 1, math.MaxInt}
	var all []api.Span
	for _, from := range ends {
		for _, to := range ends {
			all = append(all, api.Span{From: from, To: to})
		}
	}
	for _, at := range ends {
		Has(all, at)
		for _, l := range [][]api.Span{Not(all, at), Not(nil, at)} {
			if !Right(l) {
				t.Errorf("Not of %d: %v", at, l)
			}
		}
		for _, out := range ends {
			for _, in := range ends {
				for _, s := range all {
					if l := Shift([]api.Span{s, {From: 3, To: 7}}, at, out, in); !Right(l) {
						t.Errorf("Shift(%v, %d, %d, %d) = %v", s, at, out, in, l)
					}
				}
			}
		}
	}
	same(t, "Of all", Of(all), list(0, math.MaxInt))
	same(t, "And of all", And(all, all), list(0, math.MaxInt))
}

// P4: lists that are handed in stay as they are, with what stands behind them; what comes out shares nothing with them.
func TestLists(t *testing.T) {
	for _, first := range [][]api.Span{list(8, 9, 4, 6, -3, 2), list(1, 3, 5, 7, 9, 12), list(5, 9, 5, 9, 9, 10)} {
		a := append(slices.Clone(first), list(90, 95, 80, 85)...)
		b := append(list(5, 20, 1, 2), list(70, 75, 60, 65)...)
		wasA, wasB := slices.Clone(a), slices.Clone(b)
		l, m := a[:3], b[:2]
		Right(l)
		Has(l, 4)
		Size(l)
		for _, got := range [][]api.Span{Of(l), Or(l, m), Or(l, nil), Or(nil, l), And(l, m), And(l, l), Not(l, 30), Shift(l, 5, 1, 3), Shift(l, 0, 0, 0)} {
			got = got[:cap(got)]
			for i := range got {
				got[i] = api.Span{From: -7, To: -7}
			}
		}
		if !slices.Equal(a, wasA) || !slices.Equal(b, wasB) {
			t.Errorf("what was handed in is %v, %v now", a, b)
		}
	}
}

// P4: what a call answers hangs on its arguments alone, not on what was done with an answer.
func TestAnswersAreTheCallers(t *testing.T) {
	l := list(4, 6, 1, 2)
	for _, call := range []func() []api.Span{
		func() []api.Span { return Of(l) },
		func() []api.Span { return Or(l, l) },
		func() []api.Span { return And(l, l) },
		func() []api.Span { return Not(l, 9) },
		func() []api.Span { return Shift(l, 2, 0, 1) },
	} {
		first := call()
		want := slices.Clone(first)
		clear(first)
		if got := call(); !slices.Equal(got, want) {
			t.Errorf("%v at first, %v then", want, got)
		}
	}
}
