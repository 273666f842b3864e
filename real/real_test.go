package real

import (
	"math"
	"math/big"
	"testing"

	"escritoire/api"
)

const (
	neg32 = 1 << 31
	neg64 = 1 << 63
	inf32 = 0x7f800000
	inf64 = 0x7ff0000000000000
)

// edges32 and edges64 are the magnitudes at which something begins or ends.
var edges32 = []uint64{
	0, 1, 2, 3, 0x400000, 0x7ffffe, 0x7fffff, 0x800000, 0x800001, 0xffffff, 0x1000000, 0x3f7fffff, 0x3f800000, 0x3f800001,
	0x40490fdb, 0x7f7ffffe, 0x7f7fffff, inf32, 0x7f800001, 0x7fbfffff, 0x7fc00000, 0x7fffffff,
}

var edges64 = []uint64{
	0, 1, 2, 0x8000000000000, 0xffffffffffffe, 0xfffffffffffff, 0x10000000000000, 0x10000000000001, 0x3fefffffffffffff,
	0x3ff0000000000000, 0x3ff0000000000001, 0x400921fb54442d18, 0x7feffffffffffffe, 0x7fefffffffffffff,
	inf64, 0x7ff0000000000001, 0x7ff7ffffffffffff, 0x7ff8000000000000, 0x7fffffffffffffff,
	// About what is tiny, least and greatest of 32 bits.
	0x3680000000000000, 0x368fffffffffffff, 0x3690000000000000, 0x3690000000000001, 0x369fffffffffffff, 0x36a0000000000000,
	0x36a7ffffffffffff, 0x36a8000000000000, 0x36a8000000000001, 0x380fffffbfffffff, 0x380fffffc0000000, 0x380fffffdfffffff,
	0x380fffffe0000000, 0x380fffffe0000001, 0x3810000000000000, 0x47efffffe0000000, 0x47efffffefffffff, 0x47effffff0000000,
	0x47effffff0000001, 0x47f0000000000000,
	// Halfway between two of 32 bits, and beside that.
	0x3ff000000fffffff, 0x3ff0000010000000, 0x3ff0000010000001, 0x3ff0000030000000, 0x3fffffffefffffff, 0x3ffffffff0000000,
}

// drawn goes through numbers that look drawn, the same each time.
func drawn(times int, do func(n uint64)) {
	n := uint64(7)
	for range times {
		n = n*6364136223846793005 + 1442695040888963407
		do(n ^ n>>29 ^ n<<31)
	}
}

// all32 goes through bits of 32: the edges, of both signs, and others.
func all32(do func(b uint64)) {
	for _, e := range edges32 {
		do(e)
		do(e | neg32)
	}
	drawn(20_000, func(n uint64) { do(n >> 32) })
	drawn(2000, func(n uint64) { do(n&neg32 | n>>32&0x7fffff) })
}

// all64 goes through bits of 64: the edges, of both signs, and others, many of them where 32 bits have reals.
func all64(do func(b uint64)) {
	for _, e := range edges64 {
		do(e)
		do(e | neg64)
	}
	drawn(20_000, do)
	drawn(2000, func(n uint64) { do(n & (neg64 | 1<<52 - 1)) })
	drawn(50_000, func(n uint64) { do(n&(neg64|1<<52-1) | (860+n>>32%320)<<52) })
}

// all goes through bits of both widths.
func all(do func(b uint64, width int)) {
	all32(func(b uint64) { do(b, 32) })
	all64(func(b uint64) { do(b, 64) })
}

// value is the real that bits are, as the language has it.
func value(b uint64, width int) float64 {
	if width == 32 {
		return float64(math.Float32frombits(uint32(b)))
	}
	return math.Float64frombits(b)
}

// 3.1: Apart and Join, by what is told here.
func TestApartJoin(t *testing.T) {
	for _, c := range []struct {
		b     uint64
		width int
		r     api.Real
	}{
		{0, 32, api.Real{}},
		{0, 64, api.Real{}},
		{neg32, 32, api.Real{Neg: true}},
		{neg64, 64, api.Real{Neg: true}},
		{1, 32, api.Real{Frac: 1}},
		{1, 64, api.Real{Frac: 1}},
		{0x3f800000, 32, api.Real{Exp: 127}},
		{0x3ff0000000000000, 64, api.Real{Exp: 1023}},
		{0xc0490fdb, 32, api.Real{Neg: true, Exp: 128, Frac: 0x490fdb}},
		{0xc00921fb54442d18, 64, api.Real{Neg: true, Exp: 1024, Frac: 0x921fb54442d18}},
		{0x007fffff, 32, api.Real{Frac: 0x7fffff}},
		{0x000fffffffffffff, 64, api.Real{Frac: 0xfffffffffffff}},
		{0x7f7fffff, 32, api.Real{Exp: 254, Frac: 0x7fffff}},
		{0x7fefffffffffffff, 64, api.Real{Exp: 2046, Frac: 0xfffffffffffff}},
		{inf32, 32, api.Real{Exp: 255}},
		{inf64, 64, api.Real{Exp: 2047}},
		{0xffffffff, 32, api.Real{Neg: true, Exp: 255, Frac: 0x7fffff}},
		{math.MaxUint64, 64, api.Real{Neg: true, Exp: 2047, Frac: 0xfffffffffffff}},
	} {
		if r, err := Apart(c.b, c.width); r != c.r || err != nil {
			t.Errorf("Apart(%x, %d) = %v, %v; want %v", c.b, c.width, r, err, c.r)
		}
		if b, err := Join(c.r, c.width); b != c.b || err != nil {
			t.Errorf("Join(%v, %d) = %x, %v; want %x", c.r, c.width, b, err, c.b)
		}
	}
}

// 3.1: what is apart has the very real that the bits are, and is joined to these.
func TestApartJoinAll(t *testing.T) {
	all(func(b uint64, width int) {
		r, err := Apart(b, width)
		if err != nil {
			t.Fatalf("Apart(%x, %d): %v", b, width, err)
		}
		if back, err := Join(r, width); back != b || err != nil {
			t.Fatalf("Join(%v, %d) = %x, %v; want %x", r, width, back, err, b)
		}
		frac, middle := 52, 1023
		if width == 32 {
			frac, middle = 23, 127
		}
		v := value(b, width)
		if r.Exp > 2*middle {
			if math.IsInf(v, 0) != (r.Frac == 0) || math.IsNaN(v) != (r.Frac != 0) {
				t.Fatalf("Apart(%x, %d) = %v of %v", b, width, r, v)
			}
			return
		}
		n := float64(r.Frac)
		if r.Exp != 0 {
			n += math.Ldexp(1, frac)
		}
		if r.Neg {
			n = -n
		}
		n = math.Ldexp(n, max(r.Exp, 1)-middle-frac)
		if math.Float64bits(n) != math.Float64bits(v) {
			t.Fatalf("Apart(%x, %d) = %v, which is %v; want %v", b, width, r, n, v)
		}
	})
}

// 3.1: Class, as the language tells kinds apart.
func TestClass(t *testing.T) {
	all(func(b uint64, width int) {
		least := 0x1p-1022
		if width == 32 {
			least = 0x1p-126
		}
		v := value(b, width)
		want := api.Normal
		switch {
		case v != v:
			want = api.NaN
		case math.IsInf(v, 0):
			want = api.Infinite
		case v == 0:
			want = api.Zero
		case math.Abs(v) < least:
			want = api.Tiny
		}
		if got, err := Class(b, width); got != want || err != nil {
			t.Fatalf("Class(%x, %d) = %d, %v; want %d", b, width, got, err, want)
		}
	})
}

// 3.1: of width 32 all above 32 bits does not matter, and answers have nothing there.
func TestAbove32(t *testing.T) {
	all32(func(b uint64) {
		for _, above := range []uint64{1 << 32, neg64, inf64, math.MaxUint64 &^ (1<<32 - 1)} {
			r0, _ := Apart(b, 32)
			r1, err1 := Apart(b|above, 32)
			c0, _ := Class(b, 32)
			c1, err2 := Class(b|above, 32)
			k0, _ := Key(b, 32)
			k1, err3 := Key(b|above, 32)
			if r0 != r1 || c0 != c1 || k0 != k1 || err1 != nil || err2 != nil || err3 != nil {
				t.Fatalf("of %x: %v %d %d; of %x: %v %d %d %v %v %v", b, r0, c0, k0, b|above, r1, c1, k1, err1, err2, err3)
			}
			u0, e0 := Up(b, 32)
			u1, e1 := Up(b|above, 32)
			d0, f0 := Down(b, 32)
			d1, f1 := Down(b|above, 32)
			if u0 != u1 || e0 != e1 || d0 != d1 || f0 != f1 || u0>>32 != 0 || d0>>32 != 0 {
				t.Fatalf("of %x: %x %v %x %v; of %x: %x %v %x %v", b, u0, e0, d0, f0, b|above, u1, e1, d1, f1)
			}
		}
	})
}

// 3.1: ErrArg: a width that is neither 32 nor 64, ahead of ErrRange; all else is 0 then.
func TestWrongWidths(t *testing.T) {
	for _, w := range []int{0, 1, 8, 16, 31, 33, 63, 65, 80, 128, -1, -32, -64, 32 + 1<<32, math.MinInt, math.MaxInt} {
		for _, b := range []uint64{0, 1, 0x3f800000, inf64, inf64 + 1, math.MaxUint64} {
			r, err := Apart(b, w)
			if r != (api.Real{}) || api.Tell(err) != api.ErrArg {
				t.Errorf("Apart(%x, %d) = %v, %v", b, w, r, err)
			}
			for name, f := range map[string]func(uint64, int) (uint64, error){
				"Up": Up, "Down": Down,
				"Class": func(b uint64, w int) (uint64, error) { n, err := Class(b, w); return uint64(n), err },
				"Key":   func(b uint64, w int) (uint64, error) { n, err := Key(b, w); return uint64(n), err },
				"Join": func(b uint64, w int) (uint64, error) {
					return Join(api.Real{Neg: b%2 == 1, Exp: int(b), Frac: b}, w)
				},
			} {
				if n, err := f(b, w); n != 0 || api.Tell(err) != api.ErrArg {
					t.Errorf("%s of %x, %d = %x, %v", name, b, w, n, err)
				}
			}
		}
	}
}

// 3.1: Join: ErrRange: an exponent or a fraction that has too many bits.
func TestJoinTooMany(t *testing.T) {
	for _, c := range []struct {
		width int
		r     api.Real
	}{
		{32, api.Real{Exp: 256}},
		{32, api.Real{Exp: 2047}},
		{32, api.Real{Exp: -1}},
		{32, api.Real{Exp: math.MinInt}},
		{32, api.Real{Exp: math.MaxInt, Neg: true}},
		{32, api.Real{Frac: 1 << 23}},
		{32, api.Real{Exp: 255, Frac: 1 << 23}},
		{32, api.Real{Frac: 1 << 32}},
		{32, api.Real{Frac: math.MaxUint64}},
		{64, api.Real{Exp: 2048}},
		{64, api.Real{Exp: 1 << 32}},
		{64, api.Real{Exp: -1}},
		{64, api.Real{Exp: math.MinInt}},
		{64, api.Real{Exp: math.MaxInt}},
		{64, api.Real{Frac: 1 << 52, Neg: true}},
		{64, api.Real{Exp: 2047, Frac: 1 << 52}},
		{64, api.Real{Frac: math.MaxUint64}},
	} {
		if b, err := Join(c.r, c.width); b != 0 || api.Tell(err) != api.ErrRange {
			t.Errorf("Join(%v, %d) = %x, %v", c.r, c.width, b, err)
		}
	}
}

// 3.2: Key, by numbers that are told here.
func TestKey(t *testing.T) {
	for _, c := range []struct {
		b     uint64
		width int
		want  int
	}{
		{0, 32, 0},
		{0, 64, 0},
		{neg32, 32, -1},
		{neg64, 64, -1},
		{neg32, 64, neg32},
		{1, 32, 1},
		{neg32 | 1, 32, -2},
		{neg64 | 1, 64, -2},
		{0x3f800000, 32, 0x3f800000},
		{0xbf800000, 32, -0x3f800001},
		{inf32, 32, inf32},
		{inf64, 64, inf64},
		{neg32 | inf32, 32, -1 - inf32},
		{neg64 | inf64, 64, -1 - inf64},
		{0x7fffffff, 32, 0x7fffffff},
		{0xffffffff, 32, -0x80000000},
		{math.MaxInt64, 64, math.MaxInt64},
		{math.MaxUint64, 64, math.MinInt64},
	} {
		if got, err := Key(c.b, c.width); got != c.want || err != nil {
			t.Errorf("Key(%x, %d) = %d, %v; want %d", c.b, c.width, got, err, c.want)
		}
	}
}

// 3.2: by their Keys bits stand in the order of their reals.
func TestKeyOrder(t *testing.T) {
	for _, width := range []int{32, 64} {
		var last uint64
		look := func(b uint64, w int) {
			if w != width {
				return
			}
			k, _ := Key(b, width)
			l, _ := Key(last, width)
			v, u := value(b, width), value(last, width)
			if v < u && k >= l || v > u && k <= l || (b == last) != (k == l) {
				t.Fatalf("of width %d: Key of %x is %d, of %x is %d", width, b, k, last, l)
			}
			last = b
		}
		all(look)
	}
}

// 3.2: Up and Down, by bits that are told here.
func TestUpDown(t *testing.T) {
	for _, c := range []struct {
		below, above uint64
		width        int
	}{
		{neg32, 0, 32},
		{neg64, 0, 64},
		{neg32 | 1, neg32, 32},
		{neg64 | 1, neg64, 64},
		{0, 1, 32},
		{0, 1, 64},
		{0x7fffff, 0x800000, 32},
		{0xfffffffffffff, 0x10000000000000, 64},
		{0x3f7fffff, 0x3f800000, 32},
		{0xbf800001, 0xbf800000, 32},
		{0x3fefffffffffffff, 0x3ff0000000000000, 64},
		{0x7f7fffff, inf32, 32},
		{0x7fefffffffffffff, inf64, 64},
		{neg32 | inf32, neg32 | 0x7f7fffff, 32},
		{neg64 | inf64, neg64 | 0x7fefffffffffffff, 64},
	} {
		if b, err := Up(c.below, c.width); b != c.above || err != nil {
			t.Errorf("Up(%x, %d) = %x, %v; want %x", c.below, c.width, b, err, c.above)
		}
		if b, err := Down(c.above, c.width); b != c.below || err != nil {
			t.Errorf("Down(%x, %d) = %x, %v; want %x", c.above, c.width, b, err, c.below)
		}
	}
}

// 3.2: ErrRange: NaN of both signs, and what has no greater (smaller) real.
func TestUpDownNone(t *testing.T) {
	for _, width := range []int{32, 64} {
		inf, neg := uint64(inf32), uint64(neg32)
		if width == 64 {
			inf, neg = inf64, neg64
		}
		for _, b := range []uint64{inf, inf + 1, neg - 1, neg | inf + 1, neg | (neg - 1)} {
			if u, err := Up(b, width); u != 0 || api.Tell(err) != api.ErrRange {
				t.Errorf("Up(%x, %d) = %x, %v", b, width, u, err)
			}
		}
		for _, b := range []uint64{neg | inf, inf + 1, neg - 1, neg | inf + 1, neg | (neg - 1)} {
			if d, err := Down(b, width); d != 0 || api.Tell(err) != api.ErrRange {
				t.Errorf("Down(%x, %d) = %x, %v", b, width, d, err)
			}
		}
	}
}

// next is the next bits on the way to that, as the language has it: but from one zero to the other, which it holds for one.
func next(b uint64, width int, to float64) uint64 {
	if v := value(b, width); v == 0 && math.Signbit(v) != math.Signbit(to) {
		return b ^ 1<<(width-1)
	}
	if width == 32 {
		return uint64(math.Float32bits(math.Nextafter32(math.Float32frombits(uint32(b)), float32(to))))
	}
	return math.Float64bits(math.Nextafter(math.Float64frombits(b), to))
}

// 3.2: Up and Down of all go to the next real, and Keys by one; each goes back from where the other went.
func TestUpDownAll(t *testing.T) {
	all(func(b uint64, width int) {
		v := value(b, width)
		if v != v {
			return
		}
		k, _ := Key(b, width)
		if !math.IsInf(v, 1) {
			u, err := Up(b, width)
			n, _ := Key(u, width)
			back, _ := Down(u, width)
			if u != next(b, width, math.Inf(1)) || n != k+1 || back != b || err != nil {
				t.Fatalf("Up(%x, %d) = %x, %v; Key %d after %d; Down %x", b, width, u, err, n, k, back)
			}
		}
		if !math.IsInf(v, -1) {
			d, err := Down(b, width)
			n, _ := Key(d, width)
			back, _ := Up(d, width)
			if d != next(b, width, math.Inf(-1)) || n != k-1 || back != b || err != nil {
				t.Fatalf("Down(%x, %d) = %x, %v; Key %d after %d; Up %x", b, width, d, err, n, k, back)
			}
		}
	})
}

// 3.3: Widen, by bits that are told here.
func TestWiden(t *testing.T) {
	for _, c := range []struct {
		b    uint32
		want uint64
	}{
		{0, 0},
		{neg32, neg64},
		{1, 0x36a0000000000000},
		{neg32 | 1, 0xb6a0000000000000},
		{3, 0x36b8000000000000},
		{0x400000, 0x3800000000000000},
		{0x7fffff, 0x380fffffc0000000},
		{0x800000, 0x3810000000000000},
		{0x3f800000, 0x3ff0000000000000},
		{0xc0490fdb, 0xc00921fb60000000},
		{0x7f7fffff, 0x47efffffe0000000},
		{inf32, inf64},
		{neg32 | inf32, neg64 | inf64},
		{0x7f800001, 0x7ff0000020000000},
		{0x7fc00000, 0x7ff8000000000000},
		{0xffc00001, 0xfff8000020000000},
		{0xff800001, 0xfff0000020000000},
		{0x7fffffff, 0x7fffffffe0000000},
	} {
		if got := Widen(c.b); got != c.want {
			t.Errorf("Widen(%x) = %x; want %x", c.b, got, c.want)
		}
	}
}

// 3.3: Narrow, by bits that are told here.
func TestNarrow(t *testing.T) {
	for _, c := range []struct {
		b    uint64
		want uint32
	}{
		{0, 0},
		{neg64, neg32},
		{0x3ff0000000000000, 0x3f800000},
		{0xc00921fb54442d18, 0xc0490fdb},
		// Halfway: the one whose last bit is 0; beside it the nearer one.
		{0x3ff000000fffffff, 0x3f800000},
		{0x3ff0000010000000, 0x3f800000},
		{0x3ff0000010000001, 0x3f800001},
		{0x3ff000002fffffff, 0x3f800001},
		{0x3ff0000030000000, 0x3f800002},
		// What rounding carries over to the next exponent.
		{0x3ffffffff0000000, 0x40000000},
		{0xbffffffff0000000, 0xc0000000},
		// The greatest one, and halfway from it to 2^128.
		{0x47efffffe0000000, 0x7f7fffff},
		{0x47efffffefffffff, 0x7f7fffff},
		{0x47effffff0000000, inf32},
		{0xc7efffffefffffff, 0xff7fffff},
		{0xc7effffff0000000, neg32 | inf32},
		{0x47f0000000000000, inf32},
		{0x7fefffffffffffff, inf32},
		{0xffefffffffffffff, neg32 | inf32},
		// What is tiny, and what is too small.
		{0x36a0000000000000, 1},
		{0x3690000000000001, 1},
		{0x3690000000000000, 0},
		{0xb690000000000001, neg32 | 1},
		{0xb690000000000000, neg32},
		{0x36a8000000000000, 2},
		{0x36a7ffffffffffff, 1},
		{0x368fffffffffffff, 0},
		{0x380fffffc0000000, 0x7fffff},
		{0x380fffffe0000000, 0x800000},
		{0x380fffffdfffffff, 0x7fffff},
		{0x3810000000000000, 0x800000},
		{1, 0},
		{neg64 | 1, neg32},
		{0x000fffffffffffff, 0},
		{0x8010000000000000, neg32},
		// The infinite ones, and NaN.
		{inf64, inf32},
		{neg64 | inf64, neg32 | inf32},
		{0x7ff0000000000001, 0x7fc00000},
		{0xfff0000000000001, 0xffc00000},
		{0x7ff0000020000000, 0x7fc00001},
		{0x7ff000003fffffff, 0x7fc00001},
		{0xfff4000040000000, 0xffe00002},
		{0x7ff8000000000000, 0x7fc00000},
		{0x7fffffffffffffff, 0x7fffffff},
		{math.MaxUint64, 0xffffffff},
	} {
		if got := Narrow(c.b); got != c.want {
			t.Errorf("Narrow(%x) = %x; want %x", c.b, got, c.want)
		}
	}
}

// 3.3: Widen of all is the very real; narrowed again it is what it was (NaN: with its first bit 1).
func TestWidenAll(t *testing.T) {
	all32(func(b uint64) {
		got := Widen(uint32(b))
		want := math.Float64bits(value(b, 32))
		back := uint32(b)
		if value(b, 32) != value(b, 32) {
			want = b&neg32<<32 | inf64 | b&0x7fffff<<29
			back |= 0x400000
		}
		if got != want {
			t.Fatalf("Widen(%x) = %x; want %x", b, got, want)
		}
		if n := Narrow(got); n != back {
			t.Fatalf("Narrow(%x) = %x; want %x", got, n, back)
		}
	})
}

// 3.3: Narrow of all is what the language makes of it.
func TestNarrowAll(t *testing.T) {
	all64(func(b uint64) {
		v := math.Float64frombits(b)
		if v != v {
			return
		}
		if got, want := Narrow(b), math.Float32bits(float32(v)); got != want {
			t.Fatalf("Narrow(%x) = %x; want %x", b, got, want)
		}
	})
}

// 3.3: no real of 32 bits is nearer than that which is told, reckoned with numbers of any size; of two as near ones its last bit is 0.
func TestNarrowNearest(t *testing.T) {
	// The infinite one stands for 2^128 here: what lies between the greatest one and that has these two beside it.
	exact := func(b uint64) *big.Float {
		if b&^neg32 == inf32 {
			f := big.NewFloat(0x1p128)
			if b&neg32 != 0 {
				f.Neg(f)
			}
			return f
		}
		return big.NewFloat(value(b, 32))
	}
	far := func(b uint64, v float64) *big.Float {
		f := new(big.Float).SetPrec(2400).SetFloat64(v)
		f.Sub(f, exact(b))
		return f.Abs(f)
	}
	all64(func(b uint64) {
		v := math.Float64frombits(b)
		if v != v || math.Abs(v) > 0x1p128 {
			return
		}
		n := uint64(Narrow(b))
		if (n&neg32 != 0) != (b&neg64 != 0) {
			t.Fatalf("Narrow(%x) = %x: of another sign", b, n)
		}
		for _, step := range []func(uint64, int) (uint64, error){Up, Down} {
			other, err := step(n, 32)
			if err != nil || other&^neg32 == 0 && n&^neg32 == 0 {
				continue
			}
			c := far(n, v).Cmp(far(other, v))
			if c > 0 || c == 0 && n%2 == 1 {
				t.Fatalf("Narrow(%x) = %x, but %x is nearer, or as near and even", b, n, other)
			}
		}
	})
}

// 3.3: halfway between each two neighbours, and beside it.
func TestNarrowHalfway(t *testing.T) {
	all32(func(b uint64) {
		b &^= neg32
		if b >= 0x7f7fffff {
			return
		}
		// A half of the sum of two neighbours has 64 bits' room.
		half := math.Float64bits((value(b, 32) + value(b+1, 32)) / 2)
		even := uint32(b + b%2)
		for _, c := range []struct {
			b    uint64
			want uint32
		}{{half - 1, uint32(b)}, {half, even}, {half + 1, uint32(b + 1)}} {
			if got := Narrow(c.b); got != c.want {
				t.Fatalf("Narrow(%x) = %x; want %x", c.b, got, c.want)
			}
			if got := Narrow(c.b | neg64); got != c.want|neg32 {
				t.Fatalf("Narrow(%x) = %x; want %x", c.b|neg64, got, c.want|neg32)
			}
		}
	})
}
