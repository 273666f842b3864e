package huff

import (
	"errors"
	"fmt"
	"math"
	"math/big"
	"slices"
	"strconv"
	"strings"
	"testing"

	"escritoire/api"
)

// drawn is numbers that look drawn, the same each time.
type drawn uint64

func (d *drawn) below(most int) int {
	*d = *d*6364136223846793005 + 1442695040888963407
	return int(uint64(*d>>33) % uint64(most))
}

// any is any number of 64 bits, the least and the greatest ones among them often.
func (d *drawn) any() int {
	edges := []int{0, 1, -1, math.MaxInt, math.MinInt, math.MaxInt - 1, math.MinInt + 1}
	if d.below(3) == 0 {
		return edges[d.below(len(edges))]
	}
	return d.below(1<<31)<<33 ^ d.below(1<<31)<<11 ^ d.below(1<<31)
}

// text is just so many bytes, each of them one of kinds.
func (d *drawn) text(n int, kinds string) string {
	b := make([]byte, n)
	for i := range b {
		b[i] = kinds[d.below(len(kinds))]
	}
	return string(b)
}

// texts goes through all texts of up to so many bytes, each of them one of kinds.
func texts(most int, kinds string, do func(s string)) {
	level := []string{""}
	for n := 0; ; n++ {
		var next []string
		for _, s := range level {
			do(s)
			for i := range len(kinds) {
				next = append(next, s+kinds[i:i+1])
			}
		}
		if n == most {
			return
		}
		level = next
	}
}

// lists goes through all lists of up to so many numbers, each of them one of some.
func lists(most int, some []int, do func(l []int)) {
	kinds := ""
	for i := range some {
		kinds += string([]byte{byte(i)})
	}
	texts(most, kinds, func(s string) {
		l := make([]int, len(s))
		for i := range l {
			l[i] = some[s[i]]
		}
		do(l)
	})
}

// alike is n times one number.
func alike(n, number int) []int {
	return slices.Repeat([]int{number}, n)
}

// every is all bytes that there are, once each.
func every() string {
	b := make([]byte, 256)
	for i := range b {
		b[i] = byte(i)
	}
	return string(b)
}

// errno is the Errno of an error that has no place; -2, if it has one.
func errno(err error) api.Errno {
	var a *api.At
	if errors.As(err, &a) {
		return -2
	}
	return api.Tell(err)
}

// same holds a list, and its error, against what is wanted; beside an error there is nothing.
func same(t *testing.T, what string, got []int, err error, want []int, wrong api.Errno) {
	t.Helper()
	if errno(err) != wrong {
		t.Errorf("%.300s: error %v, want %v", what, err, wrong)
	}
	if !slices.Equal(got, want) || wrong != api.OK && got != nil {
		t.Errorf("%.300s = %.300s, want %.300s", what, fmt.Sprint(got), fmt.Sprint(want))
	}
}

// sameText holds a text, and its error, against what is wanted.
func sameText(t *testing.T, what, got string, err error, want string, wrong api.Errno) {
	t.Helper()
	if errno(err) != wrong {
		t.Errorf("%.300s: error %v, want %v", what, err, wrong)
	}
	if got != want {
		t.Errorf("%.300s = %.300q of %d bytes, want %.300q of %d", what, got, len(got), want, len(want))
	}
}

// heap is a group, as the words tell of it: its number, when it was made, and its things.
type heap struct {
	number, made int
	things       []int
}

// least takes the group of the least number, of like ones that made first, out of some.
func least(l []heap) (heap, []heap) {
	at := 0
	for i, h := range l {
		if h.number < l[at].number || h.number == l[at].number && h.made < l[at].made {
			at = i
		}
	}
	return l[at], slices.Concat(l[:at], l[at+1:])
}

// lensTold is Lens, as the words tell it, of numbers that are right.
func lensTold(count []int) []int {
	lens := make([]int, len(count))
	var l []heap
	for i, n := range count {
		if n != 0 {
			l = append(l, heap{n, i, []int{i}})
		}
	}
	if len(l) == 1 {
		lens[l[0].things[0]] = 1
		return lens
	}
	for made := len(count); len(l) > 1; made++ {
		var a, b heap
		a, l = least(l)
		b, l = least(l)
		both := slices.Concat(a.things, b.things)
		for _, thing := range both {
			lens[thing]++
		}
		// It is laid ahead of all others, so that only when it was made tells where it belongs.
		l = slices.Concat([]heap{{a.number + b.number, made, both}}, l)
	}
	return lens
}

// digitsTold is the signs of such lengths as texts of binary digits, as the words tell them; "" of length 0.
func digitsTold(lens []int) []string {
	signs := make([]string, len(lens))
	ahead := ""
	for n := 1; n <= api.MaxCode; n++ {
		for i, size := range lens {
			if size != n {
				continue
			}
			if ahead == "" {
				ahead = strings.Repeat("0", n)
			} else {
				ahead = onemore(ahead)
				ahead += strings.Repeat("0", n-len(ahead))
			}
			signs[i] = ahead
		}
	}
	return signs
}

// onemore is the binary digits of a number and one, as many.
func onemore(digits string) string {
	b := []byte(digits)
	for i := len(b) - 1; i >= 0; i-- {
		if b[i] == '0' {
			b[i] = '1'
			return string(b)
		}
		b[i] = '0'
	}
	panic("no room: " + digits)
}

// signsTold is Signs, as the words tell it, of lengths that are right.
func signsTold(lens []int) []int {
	signs := make([]int, len(lens))
	for i, digits := range digitsTold(lens) {
		if digits != "" {
			n, err := strconv.ParseInt(digits, 2, 64)
			if err != nil {
				panic(err)
			}
			signs[i] = int(n)
		}
	}
	return signs
}

// aboveOne tells whether the sum of 2^-n of all lengths n, but 0, is above 1.
func aboveOne(lens []int) bool {
	sum := new(big.Rat)
	for _, n := range lens {
		if n != 0 {
			sum.Add(sum, big.NewRat(1, 1<<n))
		}
	}
	return sum.Cmp(big.NewRat(1, 1)) > 0
}

// head is what stands ahead of signs: their lengths, and how many bytes a text has, whatever they are.
func head(lens []int, size int) string {
	var b []byte
	for _, n := range lens {
		b = append(b, byte(n))
	}
	return string(append(b, byte(size>>16), byte(size>>8), byte(size)))
}

// laid is what stands for a text by some lengths: the form of Pack, of any lengths that have signs and any size.
func laid(s string, lens []int, size int) string {
	signs := digitsTold(lens)
	digits := ""
	for i := range len(s) {
		digits += signs[s[i]]
	}
	for len(digits)%8 != 0 {
		digits += "0"
	}
	b := []byte(head(lens, size))
	for ; digits != ""; digits = digits[8:] {
		n, err := strconv.ParseUint(digits[:8], 2, 8)
		if err != nil {
			panic(err)
		}
		b = append(b, byte(n))
	}
	return string(b)
}

// countTold is Count, as the words tell it.
func countTold(s string) []int {
	l := make([]int, 256)
	for i := range l {
		l[i] = strings.Count(s, string([]byte{byte(i)}))
	}
	return l
}

// packTold is Pack, as the words tell it, of texts of any size.
func packTold(s string) string {
	return laid(s, lensTold(countTold(s)), len(s))
}

// with is 256 lengths, of which these bytes have others than 0.
func with(some map[byte]int) []int {
	l := make([]int, 256)
	for b, n := range some {
		l[b] = n
	}
	return l
}

// steep is numbers each of which is the sum of the two ahead: joined one by one.
func steep(most int) []int {
	l := []int{1, 1}
	for {
		n := l[len(l)-1] + l[len(l)-2]
		if n > most {
			return l
		}
		l = append(l, n)
	}
}

// steepLens is Lens of so many steep numbers: the first two are joined first, each other one with all those.
func steepLens(n int) []int {
	l := []int{n - 1}
	for i := 1; i < n; i++ {
		l = append(l, n-i)
	}
	return l
}

// 11.1: Count.
func TestCount(t *testing.T) {
	d := drawn(1)
	some := []string{"", "a", "\x00", "\xff", "abracadabra", "\x00\x80\x00\xff\x7f", every(), every() + every() + "\x80"}
	for range 50 {
		some = append(some, d.text(d.below(300), every()))
		some = append(some, d.text(d.below(300), "ab\x00\xff\x80"))
	}
	some = append(some, d.text(3*api.MaxBytes, every()))
	for _, s := range some {
		same(t, fmt.Sprintf("Count(%q)", s), Count(s), nil, countTold(s), api.OK)
	}
	l := Count("abracadabra")
	if len(l) != 256 || l['a'] != 5 || l['b'] != 2 || l['r'] != 2 || l['c'] != 1 || l['d'] != 1 || l['e'] != 0 {
		t.Errorf("Count(abracadabra) = %v", l)
	}
	if l := Count(""); !slices.Equal(l, make([]int, 256)) {
		t.Errorf("Count of no bytes: %v, want 256 noughts", l)
	}
}

// 11.1: Lens, of numbers whose lengths are reckoned by hand.
func TestLensTold(t *testing.T) {
	for _, c := range []struct{ count, want []int }{
		{nil, nil},
		{[]int{}, nil},
		{[]int{0}, []int{0}},
		{[]int{1}, []int{1}},
		{[]int{1 << 40}, []int{1}},
		{[]int{0, 0, 0}, []int{0, 0, 0}},
		{[]int{0, 7, 0}, []int{0, 1, 0}},
		{[]int{1, 1}, []int{1, 1}},
		{[]int{9, 1}, []int{1, 1}},
		{[]int{0, 9, 0, 0, 1, 0}, []int{0, 1, 0, 0, 1, 0}},
		{[]int{1, 1, 1}, []int{2, 2, 1}},
		{[]int{2, 1, 1}, []int{1, 2, 2}},
		{[]int{1, 2, 4, 8}, []int{3, 3, 2, 1}},
		{[]int{8, 4, 2, 1}, []int{1, 2, 3, 3}},
		{[]int{1, 1, 1, 1}, []int{2, 2, 2, 2}},
		// A like one that was there at first goes ahead of one that was joined.
		{[]int{1, 1, 2, 2}, []int{2, 2, 2, 2}},
		{[]int{2, 2, 1, 1}, []int{2, 2, 2, 2}},
		{[]int{1, 1, 2}, []int{2, 2, 1}},
		{[]int{1, 1, 2, 3}, []int{3, 3, 2, 1}},
		{[]int{1, 1, 1, 1, 1}, []int{3, 3, 2, 2, 2}},
		{[]int{1, 2, 1, 2, 3, 3}, []int{3, 3, 3, 3, 2, 2}},
		{[]int{1, 3, 2, 2, 4, 9}, []int{4, 3, 4, 3, 3, 1}},
		// Three of 4 are joined: of two things, of two, and of three; the first two are joined first.
		{[]int{1, 1, 2, 2, 2, 2, 2}, []int{3, 3, 3, 3, 3, 3, 2}},
		{[]int{1 << 40, 1 << 40, 1 << 40}, []int{2, 2, 1}},
		{[]int{5, 9, 12, 13, 16, 45}, []int{4, 4, 3, 3, 3, 1}},
	} {
		got, err := Lens(c.count)
		same(t, fmt.Sprintf("Lens(%v)", c.count), got, err, c.want, api.OK)
	}
}

// 11.1: Lens, against the words, of all short lists, and of drawn ones.
func TestLensAll(t *testing.T) {
	check := func(count []int) {
		got, err := Lens(count)
		same(t, fmt.Sprintf("Lens(%v)", count), got, err, lensTold(count), api.OK)
	}
	lists(7, []int{0, 1, 2, 3}, check)
	lists(5, []int{1, 2, 4, 5, 1 << 40}, check)
	d := drawn(2)
	for range 300 {
		count := make([]int, d.below(40))
		most := []int{2, 3, 10, 1000, 1<<30 + 1}[d.below(5)]
		for i := range count {
			count[i] = d.below(most) << d.below(11)
		}
		check(count)
	}
	for _, most := range []int{2, 4, 100, 1 << 30} {
		count := make([]int, 256)
		for i := range count {
			count[i] = d.below(most)
		}
		check(count)
	}
}

// 11.1: Lens of as many things as may be, all alike, and of signs that are as long as can be.
func TestLensMany(t *testing.T) {
	for _, c := range []struct{ n, number, want int }{
		{256, 0, 0}, {256, 1, 8}, {256, 3, 8}, {256, 1 << 40, 8}, {128, 1, 7}, {16, 5, 4}, {2, 1 << 40, 1},
	} {
		got, err := Lens(alike(c.n, c.number))
		same(t, fmt.Sprintf("Lens of %d times %d", c.n, c.number), got, err, alike(c.n, c.want), api.OK)
	}
	count := make([]int, 256)
	count[255] = 1
	got, err := Lens(count)
	same(t, "Lens of the last one of 256", got, err, count, api.OK)
	count = steep(1 << 40)
	got, err = Lens(count)
	if same(t, "Lens of steep numbers", got, err, steepLens(len(count)), api.OK); got[0] <= api.MaxCode {
		t.Errorf("steep numbers have no more than MaxCode bits: %d", got[0])
	}
}

// 11.1: Lens of wrong numbers, and of too many.
func TestLensWrong(t *testing.T) {
	for _, c := range []struct {
		count []int
		want  api.Errno
	}{
		{[]int{-1}, api.ErrArg},
		{[]int{1<<40 + 1}, api.ErrArg},
		{[]int{math.MinInt}, api.ErrArg},
		{[]int{math.MaxInt}, api.ErrArg},
		{[]int{0, 0, -1}, api.ErrArg},
		{[]int{1, 2, 1<<40 + 1}, api.ErrArg},
		{[]int{1 << 40, -1 << 40}, api.ErrArg},
		{append(alike(255, 1), -1), api.ErrArg},
		{alike(256, 1<<40+1), api.ErrArg},
		{alike(257, 1), api.ErrLimit},
		{alike(257, 0), api.ErrLimit},
		{alike(257, -1), api.ErrLimit},
		{alike(257, 1<<40+1), api.ErrLimit},
		{append(alike(256, 1), math.MinInt), api.ErrLimit},
		{alike(100_000, 1), api.ErrLimit},
	} {
		got, err := Lens(c.count)
		same(t, fmt.Sprintf("Lens of %d: %.100s", len(c.count), fmt.Sprint(c.count)), got, err, nil, c.want)
	}
}

// 11.1: Cost.
func TestCost(t *testing.T) {
	for _, c := range []struct {
		count, lens []int
		want        int
		wrong       api.Errno
	}{
		{nil, nil, 0, api.OK},
		{[]int{}, nil, 0, api.OK},
		{[]int{3}, []int{4}, 12, api.OK},
		{[]int{5, 2, 1}, []int{1, 2, 2}, 11, api.OK},
		{[]int{5, 0, 7}, []int{0, 9, 1}, 7, api.OK},
		{[]int{-3, 2}, []int{4, -1}, -14, api.OK},
		{alike(300, 2), alike(300, 30), 18_000, api.OK},
		{alike(256, 1<<40), alike(256, 8), 1 << 51, api.OK},
		{[]int{math.MaxInt}, []int{1}, math.MaxInt, api.OK},
		{[]int{math.MaxInt}, []int{2}, -2, api.OK},
		{[]int{math.MaxInt, 1}, []int{1, 1}, math.MinInt, api.OK},
		{[]int{math.MinInt}, []int{-1}, math.MinInt, api.OK},
		{[]int{math.MinInt, math.MinInt}, []int{1, 1}, 0, api.OK},
		{[]int{math.MinInt, -1}, []int{1, 1}, math.MaxInt, api.OK},
		{[]int{1 << 40}, []int{1 << 24}, 0, api.OK},
		{[]int{1<<40 + 1}, []int{1<<24 + 1}, 1<<40 + 1<<24 + 1, api.OK},
		{[]int{1}, nil, 0, api.ErrArg},
		{nil, []int{1}, 0, api.ErrArg},
		{[]int{1, 2}, []int{1}, 0, api.ErrArg},
		{[]int{1, 2}, []int{1, 2, 3}, 0, api.ErrArg},
		{[]int{0}, []int{0, 0}, 0, api.ErrArg},
	} {
		got, err := Cost(c.count, c.lens)
		if got != c.want || errno(err) != c.wrong {
			t.Errorf("Cost(%.100s, %.100s) = %d, %v, want %d, %v", fmt.Sprint(c.count), fmt.Sprint(c.lens), got, err, c.want, c.wrong)
		}
	}
}

// 11.1: Cost of any numbers, against numbers of any size, whose low 64 bits are taken.
func TestCostWraps(t *testing.T) {
	d := drawn(3)
	whole := new(big.Int).Lsh(big.NewInt(1), 64)
	for range 2000 {
		n := d.below(6)
		count, lens := make([]int, n), make([]int, n)
		sum := new(big.Int)
		for i := range n {
			count[i], lens[i] = d.any(), d.any()
			sum.Add(sum, new(big.Int).Mul(big.NewInt(int64(count[i])), big.NewInt(int64(lens[i]))))
		}
		want := int(new(big.Int).Mod(sum, whole).Uint64())
		got, err := Cost(count, lens)
		if got != want || err != nil {
			t.Errorf("Cost(%v, %v) = %d, %v, want %d", count, lens, got, err, want)
		}
	}
}

// 11.2: Signs, of lengths whose signs are reckoned by hand.
func TestSignsTold(t *testing.T) {
	for _, c := range []struct{ lens, want []int }{
		{nil, nil},
		{[]int{}, nil},
		{[]int{0}, []int{0}},
		{[]int{0, 0, 0}, []int{0, 0, 0}},
		{alike(256, 0), alike(256, 0)},
		{[]int{1}, []int{0}},
		{[]int{5}, []int{0}},
		{[]int{api.MaxCode}, []int{0}},
		{[]int{1, 1}, []int{0, 1}},
		{[]int{0, 1, 0, 1}, []int{0, 0, 0, 1}},
		{[]int{2, 1, 3, 3}, []int{0b10, 0b0, 0b110, 0b111}},
		{[]int{3, 3, 3, 3, 3, 2, 4, 4}, []int{0b010, 0b011, 0b100, 0b101, 0b110, 0b00, 0b1110, 0b1111}},
		// Lengths that leave room: the noughts behind come all at once.
		{[]int{4, 1}, []int{0b1000, 0b0}},
		{[]int{2, 2}, []int{0b00, 0b01}},
		{[]int{5, 3, 5, 3}, []int{0b01000, 0b000, 0b01001, 0b001}},
		{[]int{1, api.MaxCode, api.MaxCode}, []int{0, 1 << 23, 1<<23 + 1}},
		{[]int{api.MaxCode, api.MaxCode, 1}, []int{1 << 23, 1<<23 + 1, 0}},
	} {
		got, err := Signs(c.lens)
		same(t, fmt.Sprintf("Signs(%.100s)", fmt.Sprint(c.lens)), got, err, c.want, api.OK)
	}
}

// 11.2: Signs, against the words, of all short lists, and of drawn ones.
func TestSignsAll(t *testing.T) {
	d := drawn(4)
	right := 0
	check := func(lens []int) {
		var want []int
		wrong := api.ErrFull
		if !aboveOne(lens) {
			want, wrong = signsTold(lens), api.OK
			right++
		}
		got, err := Signs(lens)
		same(t, fmt.Sprintf("Signs(%v)", lens), got, err, want, wrong)
	}
	lists(6, []int{0, 1, 2, 3, 4}, check)
	lists(4, []int{1, 2, 3, 23, 24}, check)
	for range 1000 {
		lens := make([]int, d.below(30))
		for i := range lens {
			lens[i] = d.below(api.MaxCode + 1)
			if d.below(3) > 0 {
				lens[i] = 4 + d.below(4)
			}
		}
		check(lens)
	}
	for range 100 {
		lens := make([]int, 256)
		for i := range lens {
			lens[i] = 8 + d.below(api.MaxCode-7)
		}
		check(lens)
	}
	if right < 1000 {
		t.Errorf("only %d lists have signs", right)
	}
}

// stairs is lengths from 1 to MaxCode: what room they leave is that of one more of MaxCode.
func stairs() []int {
	var l []int
	for n := range api.MaxCode {
		l = append(l, n+1)
	}
	return l
}

// 11.2: Signs of lengths that just fill all room, and of more.
func TestSignsFull(t *testing.T) {
	var want []int
	for n := range api.MaxCode {
		want = append(want, 1<<(n+1)-2)
	}
	got, err := Signs(stairs())
	same(t, "Signs of stairs", got, err, want, api.OK)
	got, err = Signs(append(stairs(), api.MaxCode))
	same(t, "Signs of stairs and one", got, err, append(want, 1<<24-1), api.OK)
	for _, lens := range [][]int{
		append(stairs(), api.MaxCode, api.MaxCode),
		append(stairs(), api.MaxCode-1),
		append(stairs(), 1),
		append(alike(255, 8), 7),
		append([]int{api.MaxCode}, 1, 1),
		{1, 1, api.MaxCode},
		{1, 1, 1},
		alike(256, 1),
		alike(256, 7),
		{2, 2, 2, 2, 0, 0, 24},
	} {
		got, err := Signs(lens)
		same(t, fmt.Sprintf("Signs(%.100s)", fmt.Sprint(lens)), got, err, nil, api.ErrFull)
	}
	rising := make([]int, 256)
	for i := range rising {
		rising[i] = i
	}
	got, err = Signs(alike(256, 8))
	same(t, "Signs of 256 of 8", got, err, rising, api.OK)
	got, err = Signs(alike(256, api.MaxCode))
	same(t, "Signs of 256 of MaxCode", got, err, rising, api.OK)
	got, err = Signs(append(alike(128, 8), alike(128, 24)...))
	want = slices.Clone(rising)
	for i := range 128 {
		want[128+i] = 128<<16 + i
	}
	same(t, "Signs of 128 of 8 and 128 of 24", got, err, want, api.OK)
}

// 11.2: Signs of wrong lengths: of too many ahead of one that is out of range, and that ahead of too little room.
func TestSignsWrong(t *testing.T) {
	for _, c := range []struct {
		lens []int
		want api.Errno
	}{
		{[]int{-1}, api.ErrRange},
		{[]int{api.MaxCode + 1}, api.ErrRange},
		{[]int{math.MinInt}, api.ErrRange},
		{[]int{math.MaxInt}, api.ErrRange},
		{[]int{1, 2, -1}, api.ErrRange},
		{[]int{64}, api.ErrRange},
		{[]int{0, 0, 25}, api.ErrRange},
		{[]int{1, 1, 1, 25}, api.ErrRange},
		{[]int{1, 1, 1, -1}, api.ErrRange},
		{[]int{25, 1, 1, 1}, api.ErrRange},
		{append(alike(255, 1), math.MaxInt), api.ErrRange},
		{alike(257, 0), api.ErrLimit},
		{alike(257, 24), api.ErrLimit},
		{alike(257, 1), api.ErrLimit},
		{alike(257, -1), api.ErrLimit},
		{append(alike(256, 1), 25), api.ErrLimit},
		{append(alike(256, 24), math.MinInt), api.ErrLimit},
		{alike(100_000, 0), api.ErrLimit},
	} {
		got, err := Signs(c.lens)
		same(t, fmt.Sprintf("Signs of %d: %.100s", len(c.lens), fmt.Sprint(c.lens)), got, err, nil, c.want)
	}
}

// packed are texts, and what stands behind the lengths, reckoned by hand.
var packed = []struct {
	s    string
	lens map[byte]int
	tail string
}{
	{"", nil, "\x00\x00\x00"},
	{"a", map[byte]int{'a': 1}, "\x00\x00\x01\x00"},
	{"\x00", map[byte]int{0: 1}, "\x00\x00\x01\x00"},
	{"\xff", map[byte]int{255: 1}, "\x00\x00\x01\x00"},
	{"aaaaaaaa", map[byte]int{'a': 1}, "\x00\x00\x08\x00"},
	{"aaaaaaaaa", map[byte]int{'a': 1}, "\x00\x00\x09\x00\x00"},
	{"ab", map[byte]int{'a': 1, 'b': 1}, "\x00\x00\x02\x40"},
	{"ba", map[byte]int{'a': 1, 'b': 1}, "\x00\x00\x02\x80"},
	{"abbbbbbb", map[byte]int{'a': 1, 'b': 1}, "\x00\x00\x08\x7f"},
	{"bbbbbbbbb", map[byte]int{'b': 1}, "\x00\x00\x09\x00\x00"},
	{"\xff\x00\xff", map[byte]int{0: 1, 255: 1}, "\x00\x00\x03\xa0"},
	// a: 10, b: 11, c: 0.
	{"abc", map[byte]int{'a': 2, 'b': 2, 'c': 1}, "\x00\x00\x03\xb0"},
	// a: 0, b: 10, c: 11; 0 10 11 0 0.
	{"abcaa", map[byte]int{'a': 1, 'b': 2, 'c': 2}, "\x00\x00\x05\x58"},
	// c and d are joined; b and r, as often, stood there at first, and are next. a: 0, b: 100, c: 101, d: 110, r: 111.
	{"abracadabra", map[byte]int{'a': 1, 'b': 3, 'c': 3, 'd': 3, 'r': 3}, "\x00\x00\x0b\x4e\xac\x9c"},
}

// 11.3: Pack, of texts whose signs are reckoned by hand; Unpack of them.
func TestPackTold(t *testing.T) {
	for _, c := range packed {
		want := head(with(c.lens), 0)[:256] + c.tail
		got, err := Pack(c.s)
		sameText(t, fmt.Sprintf("Pack(%q)", c.s), got, err, want, api.OK)
		got, err = Unpack(want)
		sameText(t, fmt.Sprintf("Unpack of %q packed", c.s), got, err, c.s, api.OK)
	}
}

// 11.3: Pack against the words, and Unpack of it.
func TestPackAll(t *testing.T) {
	check := func(s string) {
		want := packTold(s)
		got, err := Pack(s)
		sameText(t, fmt.Sprintf("Pack(%q)", s), got, err, want, api.OK)
		got, err = Unpack(want)
		sameText(t, fmt.Sprintf("Unpack of %q packed", s), got, err, s, api.OK)
	}
	texts(6, "a\x00\xff", check)
	d := drawn(5)
	for i := range 256 {
		check(string([]byte{byte(i)}))
		check(string([]byte{byte(i), byte(255 - i), byte(i)}))
	}
	for range 100 {
		kinds := []string{"ab", "abc\x80", "\x00\x01\x02\xfe\xff", "aaaaaaaaaaaaaaabbbbbc", every()}[d.below(5)]
		check(d.text(d.below(400), kinds))
	}
	check(every())
	check(every() + "\x00")
	check(strings.Repeat(every(), 3))
}

// 11.3: Pack of just MaxBytes bytes and around it, and of one more; Unpack of what stands for one more.
func TestPackLong(t *testing.T) {
	d := drawn(6)
	// Each number is above the sum of all behind the next one, so that they are joined one by one: no text of MaxBytes bytes has longer signs.
	deep := ""
	for i, n := range []int{1364 + 430, 843, 521, 322, 199, 123, 76, 47, 29, 18, 11, 7, 4, 3, 1, 1, 1} {
		deep += strings.Repeat(string([]byte{byte(250 - 3*i)}), n)
	}
	if p, err := Pack(deep); err != nil || p[250] != 1 || p[202] != 16 || len(deep) != api.MaxBytes {
		t.Errorf("Pack of a text with signs of 16 bits: %q, %v", p, err)
	}
	for _, s := range []string{
		strings.Repeat("a", api.MaxBytes),
		strings.Repeat("\x00\xff", api.MaxBytes/2),
		d.text(api.MaxBytes, every()),
		d.text(api.MaxBytes, every()[250:]),
		d.text(api.MaxBytes, strings.Repeat("a", 500)+every()),
		deep,
	} {
		for _, n := range []int{255, 256, 257, api.MaxBytes - 1, api.MaxBytes} {
			s := s[len(s)-n:]
			want := packTold(s)
			got, err := Pack(s)
			sameText(t, fmt.Sprintf("Pack(%q)", s), got, err, want, api.OK)
			got, err = Unpack(want)
			sameText(t, fmt.Sprintf("Unpack of %q packed", s), got, err, s, api.OK)
		}
		for _, more := range []string{"a", "\x00", s} {
			got, err := Pack(s + more)
			sameText(t, fmt.Sprintf("Pack(%q) and %d bytes", s, len(more)), got, err, "", api.ErrLimit)
			got, err = Unpack(packTold(s + more))
			sameText(t, fmt.Sprintf("Unpack of %q packed, and %d bytes", s, len(more)), got, err, "", api.ErrForm)
		}
	}
}

// 11.3: Unpack of what stands for a text, changed: there is one text of which Pack tells it, or none. All texts that might be it are packed ahead.
func TestUnpackChanged(t *testing.T) {
	const most, kinds = 4, "\x00a\xff"
	of := map[string]string{}
	texts(most, kinds, func(s string) { of[packTold(s)] = s })
	found := 0
	check := func(p string) {
		want, ok := of[p]
		wrong := api.ErrForm
		if ok {
			wrong = api.OK
			found++
		}
		if got, err := Unpack(p); got != want || errno(err) != wrong {
			t.Errorf("Unpack(%q) = %q, %v, want %q, %v", p, got, err, want, wrong)
		}
	}
	// Lengths of other bytes, and more than so many bytes, are not touched: of such not all are packed ahead.
	places := []int{0, 'a', 255, 256, 257, 258, 259, 260}
	for p := range of {
		for _, at := range places {
			for value := range 256 {
				if at >= len(p) || at == 258 && value > most || (at == 256 || at == 257) && value > 0 && value < 64 {
					continue
				}
				b := []byte(p)
				b[at] = byte(value)
				check(string(b))
			}
		}
	}
	// All lengths of three bytes, with all of one byte's bits.
	lists(3, []int{0, 1, 2, 3}, func(l []int) {
		if len(l) < 3 {
			return
		}
		lens := with(map[byte]int{0: l[0], 'a': l[1], 255: l[2]})
		for size := range most + 1 {
			for value := range 256 {
				check(head(lens, size) + string([]byte{byte(value)}))
			}
		}
	})
	if found < 1000 {
		t.Errorf("only %d were found", found)
	}
}

// 11.3: Unpack of a byte more or less, and of what has too few bytes.
func TestUnpackCut(t *testing.T) {
	for _, s := range []string{"", "a", "ab", "aaaaaaaa", "abracadabra", "\x00\xff\x80", every()} {
		p, err := Pack(s)
		sameText(t, fmt.Sprintf("Pack(%q)", s), p, err, packTold(s), api.OK)
		for n := range len(p) {
			got, err := Unpack(p[:n])
			sameText(t, fmt.Sprintf("Unpack of %d bytes of %q packed", n, s), got, err, "", api.ErrForm)
		}
		for _, more := range []string{"\x00", "\x80", "\xff", "\x00\x00", p, strings.Repeat("\x00", 5000)} {
			got, err := Unpack(p + more)
			sameText(t, fmt.Sprintf("Unpack of %q packed, and %q", s, more), got, err, "", api.ErrForm)
			got, err = Unpack(more + p)
			sameText(t, fmt.Sprintf("Unpack of %q, and %q packed", more, s), got, err, "", api.ErrForm)
		}
	}
	for _, n := range []int{0, 1, 255, 256, 257, 258, 260, 300} {
		got, err := Unpack(strings.Repeat("\x00", n))
		sameText(t, fmt.Sprintf("Unpack of %d noughts", n), got, err, "", api.ErrForm)
	}
	got, err := Unpack(strings.Repeat("\x00", 259))
	sameText(t, "Unpack of 259 noughts", got, err, "", api.OK)
}

// 11.3: Unpack of what Pack does not tell, though signs can be read in it.
func TestUnpackOther(t *testing.T) {
	ab := map[byte]int{'a': 1, 'b': 1}
	for _, c := range []struct {
		what string
		p    string
	}{
		{"the last bit is not a nought", laid("ab", with(ab), 2)[:259] + "\x41"},
		{"the bit behind the last sign is not a nought", laid("ab", with(ab), 2)[:259] + "\x60"},
		{"the lengths are longer", laid("ab", with(map[byte]int{'a': 2, 'b': 2}), 2)},
		{"one length is longer", laid("ab", with(map[byte]int{'a': 1, 'b': 2}), 2)},
		{"a byte has a sign that does not stand there", laid("ab", with(map[byte]int{'a': 1, 'b': 2, 'c': 2}), 2)},
		{"one byte, by two bits", laid("aaa", with(map[byte]int{'a': 2}), 3)},
		{"one byte, by MaxCode bits", laid("aaa", with(map[byte]int{'a': 24}), 3)},
		{"other lengths that cost as much", laid("abc", with(map[byte]int{'a': 1, 'b': 2, 'c': 2}), 3)},
		{"other lengths that cost as much", laid("cba", with(map[byte]int{'a': 2, 'b': 1, 'c': 2}), 3)},
		{"the shorter signs stand for rarer ones", laid("abcaa", with(map[byte]int{'a': 2, 'b': 1, 'c': 2}), 5)},
		{"the size is one less", laid("ab", with(ab), 1)},
		{"the size is two more, by which c has a shorter sign", laid("abcde", with(map[byte]int{'a': 3, 'b': 3, 'c': 2, 'd': 2, 'e': 2}), 7)},
		{"the size is 0", laid("ab", with(ab), 0)},
		{"the size is beyond the bits", laid("ab", with(ab), 9)},
		{"the size is 256 more", laid("ab", with(ab), 256+2)},
		{"the size is 65536 more", laid("ab", with(ab), 65536+2)},
		{"the size is the greatest", laid("ab", with(ab), 1<<24-1)},
		{"signs without a text", head(with(ab), 0)},
		{"a text without signs", head(with(nil), 1)},
		{"a text without signs, but bits", head(with(nil), 1) + "\x00"},
		{"a length is above MaxCode", head(with(map[byte]int{'a': 25}), 1) + "\x00\x00\x00\x00"},
		{"a length is 255", head(with(map[byte]int{'a': 255}), 1) + strings.Repeat("\x00", 32)},
		{"a length of one that doesn't stand there is above MaxCode", head(with(map[byte]int{'a': 1, 'b': 25}), 1) + "\x00"},
		{"there is no room for all signs", strings.Repeat("\x01", 256) + "\x00\x00\x02\x40"},
		{"there is no room for one more", "\x01\x01\x18" + strings.Repeat("\x00", 253) + "\x00\x00\x02\x40"},
		{"no sign begins so", head(with(map[byte]int{'a': 2}), 1) + "\xff"},
		{"no sign begins so, of many bits", head(with(map[byte]int{'a': 2}), 1) + "\xff\xff\xff\xff\xff\xff"},
	} {
		got, err := Unpack(c.p)
		sameText(t, "Unpack: "+c.what, got, err, "", api.ErrForm)
	}
	// The noughts at the end are a's, and leave the lengths what they are: just so another text is packed.
	got, err := Unpack(laid("ab", with(ab), 8))
	sameText(t, "Unpack of ab with the size 8", got, err, "abaaaaaa", api.OK)
}

// 11.3: Unpack of any bytes: a text of which Pack tells them, or none.
func TestUnpackAny(t *testing.T) {
	d := drawn(7)
	for range 2000 {
		p := d.text(d.below(600), every())
		if d.below(2) == 0 {
			// Lengths for which there is room, so that signs are read.
			p = d.text(256, "\x08\x09\x0a\x0b\x18\x00") + "\x00" + d.text(d.below(300), every())
		}
		got, err := Unpack(p)
		if err != nil {
			sameText(t, fmt.Sprintf("Unpack(%q)", p), got, err, "", api.ErrForm)
		} else if packTold(got) != p {
			t.Errorf("Unpack(%q) = %q, of which Pack tells other bytes", p, got)
		}
	}
}

// P1: much to unpack ends soon.
func TestUnpackMuch(t *testing.T) {
	long := strings.Repeat("\x00", 4<<20)
	for _, size := range []int{0, 1, api.MaxBytes, api.MaxBytes + 1, 1<<24 - 1} {
		got, err := Unpack(head(with(map[byte]int{'a': 1}), size) + long)
		sameText(t, fmt.Sprintf("Unpack of %d bytes, with much behind", size), got, err, "", api.ErrForm)
	}
	got, err := Pack(long)
	sameText(t, "Pack of much", got, err, "", api.ErrLimit)
}

// P4: lists that are handed in stay what they are, behind their ends, too; what comes out is new each time.
func TestFresh(t *testing.T) {
	count, lens := []int{5, 1, 0, 2, 77, 78}, []int{1, 3, 0, 3, 88, 89}
	kept, keptLens := slices.Clone(count), slices.Clone(lens)
	call := func() [][]int {
		a, err := Lens(count[:4])
		same(t, "Lens", a, err, []int{1, 3 - 1, 0, 2}, api.OK)
		b, err := Signs(lens[:4])
		same(t, "Signs", b, err, []int{0, 0b100, 0, 0b101}, api.OK)
		if n, err := Cost(count[:4], lens[:4]); n != 14 || err != nil {
			t.Errorf("Cost = %d, %v, want 14", n, err)
		}
		c := Count("abracadabra")
		same(t, "Count", c, nil, countTold("abracadabra"), api.OK)
		return [][]int{a, b, c}
	}
	for _, l := range call() {
		for i := range l[:cap(l)] {
			l[:cap(l)][i] = -9
		}
	}
	call()
	if !slices.Equal(count, kept) || !slices.Equal(lens, keptLens) {
		t.Errorf("lists were written into: %v, %v", count, lens)
	}
}
