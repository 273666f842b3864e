package sums

import (
	"encoding/binary"
	"errors"
	"hash/adler32"
	"hash/crc32"
	"math"
	"math/big"
	"math/bits"
	"strings"
	"testing"

	"escritoire/api"
)

var widths = []int{8, 16, 32}

var wrongWidths = []int{math.MinInt, -32, -16, -8, -1, 0, 1, 7, 9, 12, 15, 17, 24, 31, 33, 40, 64, 128, math.MaxInt}

var texts = []string{
	"", "\x00", "\xff", "\x01", "\x80", "a", "ab", "\x12\x34\x56", "123456789", "escritoire", "\x00\x00\x00\x00\x00", "\xff\xff\xff\xff\xff\xff",
	"\x01\x23\x45\x67\x89\xab\xcd\xef\xfe\xdc\xba\x98\x76\x54\x32\x10", strings.Repeat("\x00", 40) + "a", strings.Repeat("bytes, templates ", 9),
}

// placeless is the Errno of an error that has no At in it; -2, if it has one.
func placeless(err error) api.Errno {
	var at *api.At
	if errors.As(err, &at) {
		return -2
	}
	return api.Tell(err)
}

// ones is so many bits, all 1.
func ones(width int) uint32 {
	return uint32(1<<uint64(width) - 1)
}

// drawn goes through numbers that look drawn, the same each time.
func drawn(times int, do func(n uint64)) {
	n := uint64(11)
	for range times {
		n = n*6364136223846793005 + 1442695040888963407
		do(n ^ n>>29 ^ n<<31)
	}
}

// ways goes through sums of all widths, Turned and not, whose numbers are at their edges, and others.
func ways(do func(m api.Sum)) {
	for _, w := range widths {
		for _, turned := range []bool{false, true} {
			for _, poly := range []uint32{1, 3, 1<<(w-1) | 1, ones(w)} {
				for _, init := range []uint32{0, 1, 1 << (w - 1), ones(w)} {
					for _, out := range []uint32{0, 1 << (w - 1), ones(w)} {
						do(api.Sum{Width: w, Poly: poly, Turned: turned, Init: init, Out: out})
					}
				}
			}
			drawn(20, func(n uint64) {
				do(api.Sum{Width: w, Poly: uint32(n)&ones(w) | 1, Turned: turned, Init: uint32(n>>13) & ones(w), Out: uint32(n>>32) & ones(w)})
			})
		}
	}
}

// crc is how Crc is made.
var crc = api.Sum{Width: 32, Poly: 0x04c11db7, Turned: true, Init: 0xffffffff, Out: 0xffffffff}

// known are sums that are well known, and what each is of 123456789.
var known = []struct {
	name string
	m    api.Sum
	want uint32
}{
	{"CRC-8/SMBUS", api.Sum{Width: 8, Poly: 0x07}, 0xf4},
	{"CRC-8/I-432-1", api.Sum{Width: 8, Poly: 0x07, Out: 0x55}, 0xa1},
	{"CRC-8/ROHC", api.Sum{Width: 8, Poly: 0x07, Turned: true, Init: 0xff}, 0xd0},
	{"CRC-8/MAXIM-DOW", api.Sum{Width: 8, Poly: 0x31, Turned: true}, 0xa1},
	{"CRC-8/AUTOSAR", api.Sum{Width: 8, Poly: 0x2f, Init: 0xff, Out: 0xff}, 0xdf},
	{"CRC-16/ARC", api.Sum{Width: 16, Poly: 0x8005, Turned: true}, 0xbb3d},
	{"CRC-16/XMODEM", api.Sum{Width: 16, Poly: 0x1021}, 0x31c3},
	{"CRC-16/IBM-3740", api.Sum{Width: 16, Poly: 0x1021, Init: 0xffff}, 0x29b1},
	{"CRC-16/GENIBUS", api.Sum{Width: 16, Poly: 0x1021, Init: 0xffff, Out: 0xffff}, 0xd64e},
	{"CRC-16/KERMIT", api.Sum{Width: 16, Poly: 0x1021, Turned: true}, 0x2189},
	{"CRC-16/IBM-SDLC", api.Sum{Width: 16, Poly: 0x1021, Turned: true, Init: 0xffff, Out: 0xffff}, 0x906e},
	{"CRC-16/MODBUS", api.Sum{Width: 16, Poly: 0x8005, Turned: true, Init: 0xffff}, 0x4b37},
	// Init is not turned round, though all else is.
	{"CRC-16/RIELLO", api.Sum{Width: 16, Poly: 0x1021, Turned: true, Init: 0xb2aa}, 0x63d0},
	{"CRC-16/TMS37157", api.Sum{Width: 16, Poly: 0x1021, Turned: true, Init: 0x89ec}, 0x26b1},
	{"CRC-32/ISO-HDLC", crc, 0xcbf43926},
	{"CRC-32/BZIP2", api.Sum{Width: 32, Poly: 0x04c11db7, Init: 0xffffffff, Out: 0xffffffff}, 0xfc891918},
	{"CRC-32/ISCSI", api.Sum{Width: 32, Poly: 0x1edc6f41, Turned: true, Init: 0xffffffff, Out: 0xffffffff}, 0xe3069283},
	{"CRC-32/MPEG-2", api.Sum{Width: 32, Poly: 0x04c11db7, Init: 0xffffffff}, 0x0376e6e7},
	{"CRC-32/CKSUM", api.Sum{Width: 32, Poly: 0x04c11db7, Out: 0xffffffff}, 0x765e7680},
	{"CRC-32/JAMCRC", api.Sum{Width: 32, Poly: 0x04c11db7, Turned: true, Init: 0xffffffff}, 0x340bc6d9},
	{"CRC-32/AIXM", api.Sum{Width: 32, Poly: 0x814141ab}, 0x3010bf7f},
	{"CRC-32/XFER", api.Sum{Width: 32, Poly: 0x000000af}, 0xbd0be338},
}

// divided is a sum as what is left over when the text, as one great number, is divided without carries: a second way to all sums, without a register.
func divided(m api.Sum, s string) uint32 {
	b := []byte(s)
	if m.Turned {
		for i := range b {
			b[i] = bits.Reverse8(b[i])
		}
	}
	rest := new(big.Int).SetBytes(b)
	rest.Lsh(rest, uint(m.Width))
	rest.Xor(rest, new(big.Int).Lsh(big.NewInt(int64(m.Init)), uint(8*len(b))))
	by := big.NewInt(1<<m.Width | int64(m.Poly))
	for over := rest.BitLen() - by.BitLen(); over >= 0; over = rest.BitLen() - by.BitLen() {
		rest.Xor(rest, new(big.Int).Lsh(by, uint(over)))
	}
	n := uint32(rest.Uint64())
	if m.Turned {
		n = bits.Reverse32(n) >> (32 - m.Width)
	}
	return n ^ m.Out
}

// 5.1: Right: the widths; a Poly whose least bit is 1; numbers of just Width bits, and of one more.
func TestRight(t *testing.T) {
	for _, w := range widths {
		for _, turned := range []bool{false, true} {
			for _, c := range []struct {
				poly, init, out uint64
				want            bool
			}{
				{1, 0, 0, true}, {3, 1, 1, true}, {1<<w - 1, 1<<w - 1, 1<<w - 1, true}, {1<<(w-1) | 1, 1 << (w - 1), 1 << (w - 1), true},
				{0, 0, 0, false}, {2, 0, 0, false}, {1<<w - 2, 0, 0, false}, {1 << (w - 1), 1, 1, false},
				{1<<w | 1, 0, 0, w == 32}, {1, 1 << w, 0, w == 32}, {1, 0, 1 << w, w == 32}, {1<<32 - 1, 0, 0, w == 32}, {1, 1<<32 - 1, 0, w == 32}, {1, 0, 1<<32 - 1, w == 32},
				{1<<31 | 1, 0, 0, w == 32}, {1, 1 << 31, 0, w == 32}, {1, 0, 1 << 31, w == 32},
			} {
				m := api.Sum{Width: w, Poly: uint32(c.poly), Turned: turned, Init: uint32(c.init), Out: uint32(c.out)}
				if got := Right(m); got != c.want {
					t.Errorf("Right(%+v) = %v; want %v", m, got, c.want)
				}
			}
		}
	}
	for _, w := range wrongWidths {
		for _, turned := range []bool{false, true} {
			if m := (api.Sum{Width: w, Poly: 1, Turned: turned}); Right(m) {
				t.Errorf("Right(%+v) = true", m)
			}
		}
	}
	if Right(api.Sum{}) {
		t.Error("Right of the zero value = true")
	}
}

// 5.1: Of, by sums that are well known.
func TestOfKnown(t *testing.T) {
	for _, c := range known {
		if got, err := Of(c.m, "123456789"); got != c.want || err != nil {
			t.Errorf("%s: Of(%+v) = %x, %v; want %x", c.name, c.m, got, err, c.want)
		}
	}
}

// 5.1: Of the empty text: Init, turned round, if Turned, and Out.
func TestOfEmpty(t *testing.T) {
	for _, c := range []struct {
		m    api.Sum
		want uint32
	}{
		{api.Sum{Width: 8, Poly: 1}, 0},
		{api.Sum{Width: 8, Poly: 1, Init: 0x13}, 0x13},
		{api.Sum{Width: 8, Poly: 1, Init: 0x13, Turned: true}, 0xc8},
		{api.Sum{Width: 8, Poly: 1, Init: 0x13, Turned: true, Out: 0xf0}, 0x38},
		{api.Sum{Width: 16, Poly: 1, Init: 0x1234, Out: 0xff}, 0x12cb},
		{api.Sum{Width: 16, Poly: 1, Init: 0x1234, Turned: true}, 0x2c48},
		{api.Sum{Width: 32, Poly: 1, Init: 0x12345678}, 0x12345678},
		{api.Sum{Width: 32, Poly: 1, Init: 0x12345678, Turned: true, Out: 1}, 0x1e6a2c49},
	} {
		if got, err := Of(c.m, ""); got != c.want || err != nil {
			t.Errorf("Of(%+v, \"\") = %x, %v; want %x", c.m, got, err, c.want)
		}
	}
}

// 5.1: Of, held against division.
func TestOfDivided(t *testing.T) {
	ways(func(m api.Sum) {
		for _, s := range texts {
			if got, err := Of(m, s); got != divided(m, s) || err != nil {
				t.Fatalf("Of(%+v, %q) = %x, %v; want %x", m, s, got, err, divided(m, s))
			}
		}
	})
}

// 5.1: bits that are turned within Width in a row, in the order in which they come in, are told.
func TestOfTells(t *testing.T) {
	for _, c := range known {
		s := "\x00\xffescritoire\x80"
		was, _ := Of(c.m, s)
		for at := 0; at+c.m.Width <= 8*len(s); at++ {
			drawn(40, func(n uint64) {
				b := []byte(s)
				for i := range c.m.Width {
					k := at + i
					bit := byte(n>>i) & 1 << (7 - k%8)
					if c.m.Turned {
						bit = bits.Reverse8(bit)
					}
					b[k/8] ^= bit
				}
				if got, _ := Of(c.m, string(b)); (got == was) != (string(b) == s) {
					t.Fatalf("%s: %q and %q have the sum %x", c.name, s, b, got)
				}
			})
		}
	}
}

// wrongWays goes through sums that are not Right.
func wrongWays(do func(m api.Sum)) {
	for _, w := range wrongWidths {
		do(api.Sum{Width: w, Poly: 1})
		do(api.Sum{Width: w, Poly: 1, Turned: true})
	}
	for _, w := range widths {
		do(api.Sum{Width: w})
		do(api.Sum{Width: w, Poly: ones(w) - 1, Turned: true})
		if w < 32 {
			do(api.Sum{Width: w, Poly: 1<<w | 1})
			do(api.Sum{Width: w, Poly: 1, Turned: true, Init: 1 << w})
			do(api.Sum{Width: w, Poly: 1, Out: 1 << w})
		}
	}
}

// 5.1, 5.2: ErrArg: m is not Right, whatever else is wrong; nothing else is told then.
func TestErrArg(t *testing.T) {
	wrongWays(func(m api.Sum) {
		for _, s := range []string{"", "a", "escritoire"} {
			if n, err := Of(m, s); n != 0 || placeless(err) != api.ErrArg {
				t.Errorf("Of(%+v, %q) = %x, %v; want ErrArg", m, s, n, err)
			}
			for _, at := range []int{math.MinInt, -1, 0, len(s), len(s) + 1, math.MaxInt} {
				for _, want := range []uint32{0, math.MaxUint32} {
					if b, err := Force(m, s, at, want); b != "" || placeless(err) != api.ErrArg {
						t.Errorf("Force(%+v, %q, %d, %x) = %q, %v; want ErrArg", m, s, at, want, b, err)
					}
				}
			}
		}
	})
}

// 5.1: Crc, by sums that are told here, and held against the library's.
func TestCrc(t *testing.T) {
	for _, c := range []struct {
		s    string
		want uint32
	}{
		{"", 0}, {"123456789", 0xcbf43926}, {"a", 0xe8b7be43}, {"abc", 0x352441c2}, {"\x00", 0xd202ef8d}, {"\xff\xff\xff\xff", 0xffffffff}, {"\x00\x00\x00\x00", 0x2144df1c},
		{"The quick brown fox jumps over the lazy dog", 0x414fa339},
	} {
		if got := Crc(c.s); got != c.want {
			t.Errorf("Crc(%q) = %x; want %x", c.s, got, c.want)
		}
	}
	for _, s := range texts {
		if got, want := Crc(s), crc32.ChecksumIEEE([]byte(s)); got != want {
			t.Errorf("Crc(%q) = %x; want %x", s, got, want)
		}
	}
	long := strings.Repeat("\x00\xffab\x80", 20_000)
	if got, want := Crc(long), crc32.ChecksumIEEE([]byte(long)); got != want {
		t.Errorf("Crc of %d bytes = %x; want %x", len(long), got, want)
	}
}

// 5.2: Force, by bytes that are told here.
func TestForce(t *testing.T) {
	for _, c := range []struct {
		m    api.Sum
		s    string
		at   int
		want uint32
		text string
	}{
		// Poly 1 goes round: the sum is that of all pieces of Width bits, bit by bit, from the end on.
		{api.Sum{Width: 8, Poly: 1}, "", 0, 0x12, "\x12"},
		{api.Sum{Width: 8, Poly: 1, Init: 0xf0}, "", 0, 0x12, "\xe2"},
		{api.Sum{Width: 8, Poly: 1, Out: 0x0f}, "", 0, 0x12, "\x1d"},
		{api.Sum{Width: 8, Poly: 1, Turned: true}, "", 0, 0x12, "\x12"},
		{api.Sum{Width: 16, Poly: 1}, "", 0, 0x1234, "\x12\x34"},
		{api.Sum{Width: 16, Poly: 1, Turned: true}, "", 0, 0x1234, "\x34\x12"},
		{api.Sum{Width: 16, Poly: 1}, "\xff\xff", 2, 0x1234, "\xed\xcb"},
		{api.Sum{Width: 16, Poly: 1}, "\xff", 0, 0x1234, "\xcb\x12"},
		{api.Sum{Width: 32, Poly: 1}, "", 0, 0x12345678, "\x12\x34\x56\x78"},
		{api.Sum{Width: 32, Poly: 1, Turned: true}, "", 0, 0x12345678, "\x78\x56\x34\x12"},
		// Texts whose Crc is known, cut apart.
		{crc, "56789", 0, 0xcbf43926, "1234"},
		{crc, "12789", 2, 0xcbf43926, "3456"},
		{crc, "12345", 5, 0xcbf43926, "6789"},
		{crc, "", 0, 0xffffffff, "\xff\xff\xff\xff"},
		{crc, "", 0, 0x2144df1c, "\x00\x00\x00\x00"},
	} {
		got, err := Force(c.m, c.s, c.at, c.want)
		if got != c.text || err != nil {
			t.Errorf("Force(%+v, %q, %d, %x) = %q, %v; want %q", c.m, c.s, c.at, c.want, got, err, c.text)
		}
	}
}

// 5.2: of a text out of which bytes are taken, the sum of the whole brings just these back, wherever they stood.
func TestForceBack(t *testing.T) {
	ways(func(m api.Sum) {
		size := m.Width / 8
		for _, s := range texts {
			whole := divided(m, s)
			for at := 0; at+size <= len(s); at++ {
				got, err := Force(m, s[:at]+s[at+size:], at, whole)
				if got != s[at:at+size] || err != nil {
					t.Fatalf("Force(%+v, %q without %d from %d on) = %q, %v", m, s, size, at, got, err)
				}
			}
		}
	})
}

// 5.2: any sum may be had, at any place, 0 and the length among them.
func TestForceAny(t *testing.T) {
	ways(func(m api.Sum) {
		for _, s := range texts[:10] {
			for at := range len(s) + 1 {
				for _, want := range []uint32{0, 1, 1 << (m.Width - 1), ones(m.Width), 0x9e3779b9 & ones(m.Width)} {
					b, err := Force(m, s, at, want)
					if err != nil || len(b) != m.Width/8 {
						t.Fatalf("Force(%+v, %q, %d, %x) = %q, %v", m, s, at, want, b, err)
					}
					if got, _ := Of(m, s[:at]+b+s[at:]); got != want {
						t.Fatalf("Force(%+v, %q, %d, %x) = %q, whose sum is %x", m, s, at, want, b, got)
					}
				}
			}
		}
	})
}

// 5.2: there is just one such text: all there are, tried one by one.
func TestForceOne(t *testing.T) {
	for _, c := range known {
		if c.m.Width == 32 {
			continue
		}
		size := c.m.Width / 8
		b, err := Force(c.m, "escritoire", 4, 0x5a)
		if err != nil {
			t.Fatal(err)
		}
		for n := range 1 << c.m.Width {
			try := string(binary.BigEndian.AppendUint16(nil, uint16(n))[2-size:])
			got, _ := Of(c.m, "escr"+try+"itoire")
			if (got == 0x5a) != (try == b) {
				t.Fatalf("%s: Force = %q, and %q has the sum %x", c.name, b, try, got)
			}
		}
	}
}

// 5.2: ErrRange: at is not from 0 to the length of s, or want has more than Width bits; nothing else is told then.
func TestForceErrRange(t *testing.T) {
	for _, w := range widths {
		for _, turned := range []bool{false, true} {
			m := api.Sum{Width: w, Poly: 1, Turned: turned}
			for _, s := range []string{"", "a", "escritoire"} {
				for _, at := range []int{math.MinInt, -2, -1, len(s) + 1, len(s) + w/8, math.MaxInt} {
					for _, want := range []uint32{0, ones(w), math.MaxUint32} {
						if b, err := Force(m, s, at, want); b != "" || placeless(err) != api.ErrRange {
							t.Errorf("Force(%+v, %q, %d, %x) = %q, %v; want ErrRange", m, s, at, want, b, err)
						}
					}
				}
				for _, at := range []int{0, len(s)} {
					if b, err := Force(m, s, at, ones(w)); len(b) != w/8 || err != nil {
						t.Errorf("Force(%+v, %q, %d, %x) = %q, %v", m, s, at, ones(w), b, err)
					}
					if w == 32 {
						continue // no number that may be asked for has more bits
					}
					for _, want := range []uint32{1 << w, 1 << 31, math.MaxUint32} {
						if b, err := Force(m, s, at, want); b != "" || placeless(err) != api.ErrRange {
							t.Errorf("Force(%+v, %q, %d, %x) = %q, %v; want ErrRange", m, s, at, want, b, err)
						}
					}
				}
			}
		}
	}
}

// twice is both sums of 5.3 by numbers of any size: each byte is in the second sum as often as there are bytes from it on.
func twice(s string, first, modulus, half int64) uint32 {
	a, b := big.NewInt(first), big.NewInt(first*int64(len(s)))
	for i := range len(s) {
		c := int64(s[i])
		a.Add(a, big.NewInt(c))
		b.Add(b, big.NewInt(c*int64(len(s)-i)))
	}
	a.Mod(a, big.NewInt(modulus))
	b.Mod(b, big.NewInt(modulus))
	return uint32(b.Int64()*half + a.Int64())
}

// longTexts reach what both sums are divided by, hit it just so, and go far beyond.
var longTexts = []string{
	"\xfe", "\xfe\x01", "\xff\xff", strings.Repeat("\xfe", 300), strings.Repeat("\x01", 255), strings.Repeat("\x01", 65521),
	strings.Repeat("\xff", 256) + "\xef", strings.Repeat("\xff", 256) + "\xf0", strings.Repeat("\xff", 256) + "\xf1",
	strings.Repeat("\x00", 65520), strings.Repeat("\x00", 65521), strings.Repeat("\xff", 100_000), strings.Repeat("\x00\xffab\x80", 20_000),
}

// 5.3: Fletcher, by sums that are well known, and held against numbers of any size.
func TestFletcher(t *testing.T) {
	for _, c := range []struct {
		s    string
		want uint32
	}{
		{"", 0}, {"\x00\x00", 0}, {"\xff", 0}, {"\xff\xff\xff", 0}, {"\x01", 0x0101}, {"\x01\x02", 0x0403}, {"\xfe", 0xfefe}, {"\xfe\x01", 0xfe00},
		{"abcde", 0xc8f0}, {"abcdef", 0x2057}, {"abcdefgh", 0x0627},
	} {
		if got := Fletcher(c.s); got != c.want {
			t.Errorf("Fletcher(%q) = %x; want %x", c.s, got, c.want)
		}
	}
	for _, s := range append(longTexts, texts...) {
		if got, want := Fletcher(s), twice(s, 0, 255, 256); got != want {
			t.Errorf("Fletcher(%.20q) of %d bytes = %x; want %x", s, len(s), got, want)
		}
	}
}

// 5.3: Adler, by sums that are well known, and held against numbers of any size, and the library's.
func TestAdler(t *testing.T) {
	for _, c := range []struct {
		s    string
		want uint32
	}{
		{"", 1}, {"\x00", 0x00010001}, {"\x00\x00", 0x00020001}, {"a", 0x00620062}, {"abc", 0x024d0127}, {"Wikipedia", 0x11e60398}, {"123456789", 0x091e01de},
	} {
		if got := Adler(c.s); got != c.want {
			t.Errorf("Adler(%q) = %x; want %x", c.s, got, c.want)
		}
	}
	for _, s := range append(longTexts, texts...) {
		want := twice(s, 1, 65521, 65536)
		if want != adler32.Checksum([]byte(s)) {
			t.Fatalf("the second way to Adler(%.20q) is wrong", s)
		}
		if got := Adler(s); got != want {
			t.Errorf("Adler(%.20q) of %d bytes = %x; want %x", s, len(s), got, want)
		}
	}
}
