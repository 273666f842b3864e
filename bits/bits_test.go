package bits

import (
	"math"
	"strconv"
	"strings"
	"testing"

	"escritoire/api"
)

var orders = []int{api.Little, api.Big}

var texts = []string{
	"", "\x00", "\xff", "\x01", "\x80", "a", "ab", "\x12\x34\x56", "\x80\x00\x00\x01", "escritoire",
	"\x01\x23\x45\x67\x89\xab\xcd\xef", "\xff\x00\xff\x00\xff\x00\xff\x00\xff", "\xfe\xdc\xba\x98\x76\x54\x32\x10\x0f\x1e",
}

// written is all bits of s as digits, in the order in which they are numbered: made of digits alone, as a second way to all answers.
func written(s string, order int) string {
	all := ""
	for i := range len(s) {
		d := strconv.FormatUint(uint64(s[i]), 2)
		d = strings.Repeat("0", 8-len(d)) + d
		if order == api.Little {
			d = backwards(d)
		}
		all += d
	}
	return all
}

// read is the text whose bits are written so.
func read(digits string, order int) string {
	s := ""
	for ; digits != ""; digits = digits[8:] {
		d := digits[:8]
		if order == api.Little {
			d = backwards(d)
		}
		n, _ := strconv.ParseUint(d, 2, 8)
		s += string([]byte{byte(n)})
	}
	return s
}

func backwards(s string) string {
	b := []byte(s)
	for i := range b {
		b[i] = s[len(s)-1-i]
	}
	return string(b)
}

// number is the number that digits are, in the order of their bits.
func number(digits string, order int) uint64 {
	if order == api.Little {
		digits = backwards(digits)
	}
	n, _ := strconv.ParseUint("0"+digits, 2, 64)
	return n
}

// low is the low n bits of v, as digits, in the order of their bits.
func low(v uint64, n, order int) string {
	d := strconv.FormatUint(v, 2)
	d = strings.Repeat("0", 64-len(d)) + d
	d = d[64-n:]
	if order == api.Little {
		return backwards(d)
	}
	return d
}

// 2.1: Get, by numbers that are told here.
func TestGet(t *testing.T) {
	for _, c := range []struct {
		s            string
		at, n, order int
		want         uint64
	}{
		{"\x12\x34", 0, 16, api.Big, 0x1234},
		{"\x12\x34", 0, 16, api.Little, 0x3412},
		{"\x12\x34", 4, 8, api.Big, 0x23},
		{"\x12\x34", 4, 8, api.Little, 0x41},
		{"\x80", 0, 1, api.Big, 1},
		{"\x80", 0, 1, api.Little, 0},
		{"\x80", 7, 1, api.Little, 1},
		{"\xb0", 0, 3, api.Big, 5},
		{"\x06", 0, 3, api.Little, 6},
		{"\x01\x23\x45\x67\x89\xab\xcd\xef", 0, 64, api.Big, 0x0123456789abcdef},
		{"\x01\x23\x45\x67\x89\xab\xcd\xef", 0, 64, api.Little, 0xefcdab8967452301},
		{"", 0, 0, api.Big, 0},
		{"\xff", 8, 0, api.Little, 0},
	} {
		got, err := Get(c.s, c.at, c.n, c.order)
		if got != c.want || err != nil {
			t.Errorf("Get(%q, %d, %d, %d) = %x, %v; want %x", c.s, c.at, c.n, c.order, got, err, c.want)
		}
	}
}

// 2.1: Put, by texts that are told here.
func TestPut(t *testing.T) {
	for _, c := range []struct {
		s            string
		at, n, order int
		v            uint64
		want         string
	}{
		{"\x12\x34", 4, 8, api.Big, 0xabc, "\x1b\xc4"},
		{"\x12\x34", 4, 8, api.Little, 0xabc, "\xc2\x3b"},
		{"\xff", 0, 1, api.Big, 0, "\x7f"},
		{"\xff", 0, 1, api.Little, 2, "\xfe"},
		{"\x00", 1, 3, api.Big, 6, "\x60"},
		{"\x00", 1, 3, api.Little, 6, "\x0c"},
		{"abcdefgh", 0, 64, api.Big, 0x0123456789abcdef, "\x01\x23\x45\x67\x89\xab\xcd\xef"},
		{"abcdefgh", 0, 64, api.Little, 0x0123456789abcdef, "\xef\xcd\xab\x89\x67\x45\x23\x01"},
		{"", 0, 0, api.Big, math.MaxUint64, ""},
		{"a", 8, 0, api.Little, math.MaxUint64, "a"},
	} {
		got, err := Put(c.s, c.at, c.n, c.order, c.v)
		if got != c.want || err != nil {
			t.Errorf("Put(%q, %d, %d, %d, %x) = %q, %v; want %q", c.s, c.at, c.n, c.order, c.v, got, err, c.want)
		}
	}
}

// 2.1: Get and Put of all bits that there are, held against bits that are written as digits: what is put is there, and no other bit changes.
func TestGetPutAll(t *testing.T) {
	for _, s := range texts {
		for _, order := range orders {
			digits := written(s, order)
			for n := 0; n <= 64 && n <= len(digits); n++ {
				for at := 0; at+n <= len(digits); at++ {
					got, err := Get(s, at, n, order)
					if want := number(digits[at:at+n], order); got != want || err != nil {
						t.Fatalf("Get(%q, %d, %d, %d) = %x, %v; want %x", s, at, n, order, got, err, want)
					}
					for _, v := range []uint64{0, math.MaxUint64, 0xa5c396e18d2b4f07} {
						put, err := Put(s, at, n, order, v)
						want := read(digits[:at]+low(v, n, order)+digits[at+n:], order)
						if put != want || err != nil {
							t.Fatalf("Put(%q, %d, %d, %d, %x) = %q, %v; want %q", s, at, n, order, v, put, err, want)
						}
					}
				}
			}
		}
	}
}

// 2.1: ErrArg: the order is none; then ErrRange: n is not from 0 to 64, or at not where n bits are; nothing else is told then.
func TestErrors(t *testing.T) {
	long := strings.Repeat("a", 20)
	for _, c := range []struct {
		s            string
		at, n, order int
		want         api.Errno
	}{
		{"ab", 0, 8, -1, api.ErrArg},
		{"ab", 0, 8, 2, api.ErrArg},
		{"ab", 0, 8, math.MinInt, api.ErrArg},
		{"ab", 0, 8, math.MaxInt, api.ErrArg},
		{"ab", -1, 65, 2, api.ErrArg},
		{"ab", 0, -1, api.Big, api.ErrRange},
		{"ab", 0, math.MinInt, api.Big, api.ErrRange},
		{"ab", 0, math.MaxInt, api.Little, api.ErrRange},
		{"ab", -1, 1, api.Big, api.ErrRange},
		{"ab", -1, 0, api.Big, api.ErrRange},
		{"ab", math.MinInt, 64, api.Big, api.ErrRange},
		{"ab", math.MaxInt, 64, api.Little, api.ErrRange},
		{"ab", 17, -1, api.Little, api.ErrRange},
		{"ab", 16, 0, api.Little, api.OK},
		{"ab", 17, 0, api.Little, api.ErrRange},
		{"ab", 15, 1, api.Big, api.OK},
		{"ab", 16, 1, api.Big, api.ErrRange},
		{"ab", 0, 16, api.Big, api.OK},
		{"ab", 0, 17, api.Big, api.ErrRange},
		{"ab", 1, 16, api.Big, api.ErrRange},
		{"", 0, 0, api.Big, api.OK},
		{"", 0, 1, api.Big, api.ErrRange},
		{long, 96, 64, api.Little, api.OK},
		{long, 97, 64, api.Little, api.ErrRange},
		{long, 0, 65, api.Little, api.ErrRange},
	} {
		n, err := Get(c.s, c.at, c.n, c.order)
		if api.Tell(err) != c.want || err != nil && n != 0 {
			t.Errorf("Get(%q, %d, %d, %d) = %x, %v; want error %d", c.s, c.at, c.n, c.order, n, err, c.want)
		}
		s, err := Put(c.s, c.at, c.n, c.order, math.MaxUint64)
		if api.Tell(err) != c.want || err != nil && s != "" {
			t.Errorf("Put(%q, %d, %d, %d) = %q, %v; want error %d", c.s, c.at, c.n, c.order, s, err, c.want)
		}
	}
}

// 2.2: how many bits are 1.
func TestCount(t *testing.T) {
	for _, c := range []struct {
		s    string
		want int
	}{
		{"", 0}, {"\x00", 0}, {"\x01", 1}, {"\x80", 1}, {"\xff", 8}, {"a", 3}, {"\xff\x00\xfe", 15}, {strings.Repeat("\xff", 1000), 8000},
	} {
		if got := Count(c.s); got != c.want {
			t.Errorf("Count(%q) = %d; want %d", c.s, got, c.want)
		}
	}
	for c := range 256 {
		s := string([]byte{byte(c)})
		if got, want := Count(s), strings.Count(written(s, api.Big), "1"); got != want {
			t.Errorf("Count(%q) = %d; want %d", s, got, want)
		}
	}
}

// 2.2: each byte's bits the other way round; the bytes stay where they are.
func TestTurn(t *testing.T) {
	for _, c := range []struct{ s, want string }{
		{"", ""}, {"\x00", "\x00"}, {"\x01", "\x80"}, {"\x80\x01", "\x01\x80"}, {"\x12\x34", "\x48\x2c"}, {"\xff\x00\x0f", "\xff\x00\xf0"},
	} {
		if got := Turn(c.s); got != c.want {
			t.Errorf("Turn(%q) = %q; want %q", c.s, got, c.want)
		}
	}
	for c := range 256 {
		s := string([]byte{byte(c), 1})
		if got := Turn(s); got != read(written(s, api.Little), api.Big) || Turn(got) != s {
			t.Errorf("Turn(%q) = %q", s, got)
		}
	}
}

// 2.2: bit k is the one that was bit k + n, round about, also of n below 0, and far beyond the text.
func TestRotate(t *testing.T) {
	for _, c := range []struct {
		s    string
		n    int
		want string
	}{
		{"", 0, ""}, {"", 5, ""}, {"", math.MinInt, ""},
		{"\x80", 1, "\x01"}, {"\x80", -1, "\x40"}, {"\x12\x34", 4, "\x23\x41"}, {"\x12\x34", -4, "\x41\x23"},
		{"abc", 8, "bca"}, {"abc", -8, "cab"}, {"abc", 24, "abc"}, {"abc", -24, "abc"}, {"\x80\x00\x01", 1, "\x00\x00\x03"},
	} {
		if got := Rotate(c.s, c.n); got != c.want {
			t.Errorf("Rotate(%q, %d) = %q; want %q", c.s, c.n, got, c.want)
		}
	}
}

// 2.2: Rotate, held against bits that are written as digits.
func TestRotateAll(t *testing.T) {
	for _, s := range texts[1:] {
		digits := written(s, api.Big)
		size := len(digits)
		turns := []int{math.MinInt, math.MinInt + 1, math.MaxInt - 1, math.MaxInt}
		for n := -2*size - 1; n <= 2*size+1; n++ {
			turns = append(turns, n)
		}
		for _, n := range turns {
			first := n % size
			if first < 0 {
				first += size
			}
			want := read(digits[first:]+digits[:first], api.Big)
			if got := Rotate(s, n); got != want {
				t.Fatalf("Rotate(%q, %d) = %q; want %q", s, n, got, want)
			}
		}
	}
}
