package word

import (
	"math"
	"testing"

	"escritoire/api"
)

// widths has those that Put, Get and Swap take, and those that none takes.
var widths = []struct {
	width       int
	whole, some bool
}{
	{math.MinInt, false, false}, {-8, false, false}, {-1, false, false}, {0, false, false},
	{1, true, true}, {2, true, true}, {3, false, true}, {4, true, true},
	{5, false, true}, {6, false, true}, {7, false, true}, {8, true, true},
	{9, false, false}, {16, false, false}, {64, false, false}, {math.MaxInt, false, false},
}

var numbers = []uint64{0, 1, 0x7f, 0x80, 0xff, 0x100, 0x1234, 0x8000, 0xffff, 0x12345678, 0x80000000, 0x0123456789abcdef, 1 << 63, math.MaxUint64}

// 1.1: n's low bytes, the least first (Little), or last.
func TestPut(t *testing.T) {
	for _, c := range []struct {
		n            uint64
		width, order int
		want         string
	}{
		{0x1234, 2, api.Big, "\x12\x34"},
		{0x1234, 2, api.Little, "\x34\x12"},
		{0xfedc, 1, api.Big, "\xdc"},
		{0xfedc, 1, api.Little, "\xdc"},
		{0x9912345678, 4, api.Big, "\x12\x34\x56\x78"},
		{0x9912345678, 4, api.Little, "\x78\x56\x34\x12"},
		{0x0123456789abcdef, 8, api.Big, "\x01\x23\x45\x67\x89\xab\xcd\xef"},
		{0x0123456789abcdef, 8, api.Little, "\xef\xcd\xab\x89\x67\x45\x23\x01"},
		{0, 4, api.Big, "\x00\x00\x00\x00"},
		{math.MaxUint64, 8, api.Little, "\xff\xff\xff\xff\xff\xff\xff\xff"},
	} {
		got, err := Put(c.n, c.width, c.order)
		if got != c.want || err != nil {
			t.Errorf("Put(%x, %d, %d) = %q, %v; want %q", c.n, c.width, c.order, got, err, c.want)
		}
	}
}

// 1.1: the number of the bytes that stand there.
func TestGet(t *testing.T) {
	const s = "\x01\x23\x45\x67\x89\xab\xcd\xef\xff"
	for _, c := range []struct {
		at, width, order int
		want             uint64
	}{
		{0, 1, api.Big, 0x01},
		{8, 1, api.Little, 0xff},
		{1, 2, api.Big, 0x2345},
		{1, 2, api.Little, 0x4523},
		{5, 4, api.Big, 0xabcdefff},
		{5, 4, api.Little, 0xffefcdab},
		{0, 8, api.Big, 0x0123456789abcdef},
		{0, 8, api.Little, 0xefcdab8967452301},
		{1, 8, api.Big, 0x23456789abcdefff},
		{1, 8, api.Little, 0xffefcdab89674523},
	} {
		got, err := Get(s, c.at, c.width, c.order)
		if got != c.want || err != nil {
			t.Errorf("Get(at %d, %d, %d) = %x, %v; want %x", c.at, c.width, c.order, got, err, c.want)
		}
	}
}

// 1.1: ErrRange: there aren't width bytes from at on; ErrArg comes ahead of it.
func TestGetRange(t *testing.T) {
	for _, c := range []struct {
		s                string
		at, width, order int
		want             api.Errno
	}{
		{"", 0, 1, api.Big, api.ErrRange},
		{"abcd", -1, 1, api.Big, api.ErrRange},
		{"abcd", 3, 1, api.Big, api.OK},
		{"abcd", 4, 1, api.Big, api.ErrRange},
		{"abcd", 2, 2, api.Little, api.OK},
		{"abcd", 3, 2, api.Little, api.ErrRange},
		{"abcd", 0, 4, api.Big, api.OK},
		{"abcd", 1, 4, api.Big, api.ErrRange},
		{"abcd", 0, 8, api.Big, api.ErrRange},
		{"abcd", -4, 8, api.Big, api.ErrRange},
		{"abcdefgh", 0, 8, api.Little, api.OK},
		{"abcd", math.MaxInt, 8, api.Big, api.ErrRange},
		{"abcd", math.MinInt, 8, api.Big, api.ErrRange},
		{"abcd", 9, 3, api.Big, api.ErrArg},
		{"abcd", 9, 2, 2, api.ErrArg},
	} {
		n, err := Get(c.s, c.at, c.width, c.order)
		if api.Tell(err) != c.want || err != nil && n != 0 {
			t.Errorf("Get(%q, %d, %d, %d) = %x, %v; want error %d", c.s, c.at, c.width, c.order, n, err, c.want)
		}
	}
}

// 1.1: ErrArg: width is none of 1, 2, 4, 8, or order neither Little nor Big; nothing else is told then.
func TestArg(t *testing.T) {
	for _, w := range widths {
		for _, order := range []int{math.MinInt, -1, api.Little, api.Big, 2, math.MaxInt} {
			want := api.ErrArg
			if w.whole && (order == api.Little || order == api.Big) {
				want = api.OK
			}
			s, err := Put(0xffff, w.width, order)
			if api.Tell(err) != want || err != nil && s != "" {
				t.Errorf("Put(width %d, order %d) = %q, %v; want error %d", w.width, order, s, err, want)
			}
			n, err := Get("abcdefgh", 0, w.width, order)
			if api.Tell(err) != want || err != nil && n != 0 {
				t.Errorf("Get(width %d, order %d) = %x, %v; want error %d", w.width, order, n, err, want)
			}
		}
		want := api.ErrArg
		if w.whole {
			want = api.OK
		}
		n, err := Swap(0xffff, w.width)
		if api.Tell(err) != want || err != nil && n != 0 {
			t.Errorf("Swap(width %d) = %x, %v; want error %d", w.width, n, err, want)
		}
	}
}

// 1.1: what is put is got, wherever it stands, and nothing else of it.
func TestPutGet(t *testing.T) {
	for _, n := range numbers {
		for _, width := range []int{1, 2, 4, 8} {
			for _, order := range []int{api.Little, api.Big} {
				s, err := Put(n, width, order)
				if len(s) != width || err != nil {
					t.Fatalf("Put(%x, %d, %d) = %q, %v", n, width, order, s, err)
				}
				for at := range 9 {
					got, err := Get("abcdefghi"[:at]+s+"jk", at, width, order)
					if got != Unsigned(n, width) || err != nil {
						t.Errorf("Get of Put(%x, %d, %d) at %d = %x, %v", n, width, order, at, got, err)
					}
				}
			}
		}
	}
}

// 1.1: the bytes of n the other way round.
func TestSwap(t *testing.T) {
	for _, c := range []struct {
		n     uint64
		width int
		want  uint64
	}{
		{0x1234, 2, 0x3412},
		{0x1234, 1, 0x34},
		{0x1234, 4, 0x34120000},
		{0x1234, 8, 0x3412000000000000},
		{0xff12345678, 4, 0x78563412},
		{0x0123456789abcdef, 8, 0xefcdab8967452301},
		{math.MaxUint64, 2, 0xffff},
		{0, 8, 0},
	} {
		got, err := Swap(c.n, c.width)
		if got != c.want || err != nil {
			t.Errorf("Swap(%x, %d) = %x, %v; want %x", c.n, c.width, got, err, c.want)
		}
		back, err := Swap(got, c.width)
		if back != Unsigned(c.n, c.width) || err != nil {
			t.Errorf("Swap twice (%x, %d) = %x, %v", c.n, c.width, back, err)
		}
	}
}

// 1.2: the low bytes, the greatest bit of which is a sign.
func TestSigned(t *testing.T) {
	for _, c := range []struct {
		n     uint64
		width int
		want  int
	}{
		{0, 1, 0}, {0x7f, 1, 127}, {0x80, 1, -128}, {0xff, 1, -1}, {0x17f, 1, 127}, {0x180, 1, -128},
		{0x7fff, 2, 32767}, {0x8000, 2, -32768}, {0xff80, 2, -128},
		{0x7fffff, 3, 1<<23 - 1}, {0x800000, 3, -1 << 23}, {0xff7fffff, 3, 1<<23 - 1},
		{0x80000000, 4, -1 << 31}, {0x80000000, 5, 1 << 31},
		{1 << 39, 5, -1 << 39}, {1 << 47, 6, -1 << 47}, {1 << 55, 7, -1 << 55}, {1 << 55, 8, 1 << 55},
		{1<<63 - 1, 8, math.MaxInt}, {1 << 63, 8, math.MinInt}, {math.MaxUint64, 8, -1},
	} {
		if got := Signed(c.n, c.width); got != c.want {
			t.Errorf("Signed(%x, %d) = %d; want %d", c.n, c.width, got, c.want)
		}
	}
}

// 1.2: the low bytes, without a sign.
func TestUnsigned(t *testing.T) {
	for width := 1; width <= 8; width++ {
		for _, n := range numbers {
			want := n
			if width < 8 {
				want = n % (1 << (8 * width))
			}
			if got := Unsigned(n, width); got != want {
				t.Errorf("Unsigned(%x, %d) = %x; want %x", n, width, got, want)
			}
		}
	}
}

// 1.2: what width bytes tell, from the least to the greatest, and neither one less nor one more.
func TestFits(t *testing.T) {
	for width := 1; width <= 7; width++ {
		half := 1 << (8*width - 1)
		for _, c := range []struct {
			n                int
			signed, unsigned bool
		}{
			{-half - 1, false, false}, {-half, true, false}, {-1, true, false}, {0, true, true},
			{half - 1, true, true}, {half, false, true}, {half + half - 1, false, true}, {half + half, false, false},
			{math.MinInt, false, false}, {math.MaxInt, false, false},
		} {
			if Fits(c.n, width, true) != c.signed || Fits(c.n, width, false) != c.unsigned {
				t.Errorf("Fits(%d, %d) = %v with a sign, %v without one", c.n, width, !c.signed, !c.unsigned)
			}
		}
	}
	for _, n := range []int{math.MinInt, -1, 0, 1, math.MaxInt} {
		if !Fits(n, 8, true) || Fits(n, 8, false) != (n >= 0) {
			t.Errorf("Fits(%d, 8): %v with a sign, %v without one", n, Fits(n, 8, true), Fits(n, 8, false))
		}
	}
}

// 1.2: of any other width 0, false.
func TestWidths(t *testing.T) {
	for _, w := range widths {
		if got := Signed(1, w.width); (got == 1) != w.some || !w.some && got != 0 {
			t.Errorf("Signed(1, %d) = %d", w.width, got)
		}
		if got := Unsigned(1, w.width); (got == 1) != w.some || !w.some && got != 0 {
			t.Errorf("Unsigned(1, %d) = %d", w.width, got)
		}
		for _, n := range []int{0, 1} {
			if Fits(n, w.width, true) != w.some || Fits(n, w.width, false) != w.some {
				t.Errorf("Fits(%d, %d): want %v", n, w.width, w.some)
			}
		}
	}
}
