package digits

import (
	"encoding/hex"
	"errors"
	"math"
	"math/big"
	"strconv"
	"strings"
	"testing"

	"escritoire/api"
)

// placeless is the Errno of an error that has no At in it; -2, if it has one.
func placeless(err error) api.Errno {
	var at *api.At
	if errors.As(err, &at) {
		return -2
	}
	return api.Tell(err)
}

// drawn goes through numbers that look drawn, the same each time, short ones as often as long ones.
func drawn(times int, do func(n uint64)) {
	n := uint64(5)
	for i := range times {
		n = n*6364136223846793005 + 1442695040888963407
		do((n ^ n>>29 ^ n<<31) >> (i % 64))
	}
}

// numbers goes through the edges of numbers of 64 bits, through powers of all bases and what stands beside them, and through others.
func numbers(do func(n uint64)) {
	for _, n := range []uint64{0, 1, math.MaxInt64, 1 << 63, 1<<63 + 1, math.MaxUint64 - 1, math.MaxUint64} {
		do(n)
	}
	for base := uint64(2); base <= 16; base++ {
		for n := base; n > 1 && n <= math.MaxUint64/base; n *= base {
			do(n - 1)
			do(n)
			do(n + 1)
		}
	}
	drawn(2000, do)
}

var wrongBases = []int{math.MinInt, -16, -10, -2, -1, 0, 1, 17, 32, 36, 64, math.MaxInt}

// 4.1: of 0 to 9, a to f, A to F 0 to 15; of any other byte -1.
func TestDigit(t *testing.T) {
	for c := range 256 {
		want := -1
		if i := strings.IndexByte("0123456789abcdef", byte(c)); i >= 0 {
			want = i
		}
		if i := strings.IndexByte("ABCDEF", byte(c)); i >= 0 {
			want = 10 + i
		}
		if got := Digit(byte(c)); got != want {
			t.Errorf("Digit(%q) = %d; want %d", byte(c), got, want)
		}
	}
}

// 4.1: Print, by texts that are told here: small letters, noughts up to width, no digit cut off.
func TestPrint(t *testing.T) {
	for _, c := range []struct {
		n           uint64
		base, width int
		want        string
	}{
		{0, 10, 0, "0"}, {0, 2, 1, "0"}, {0, 16, 2, "00"}, {0, 10, 64, strings.Repeat("0", 64)},
		{7, 10, 0, "7"}, {7, 10, 1, "7"}, {7, 10, 3, "007"}, {1234, 10, 2, "1234"}, {1234, 10, 4, "1234"}, {1234, 10, 5, "01234"},
		{0xabcdef, 16, 0, "abcdef"}, {0xabcdef, 16, 8, "00abcdef"}, {5, 2, 0, "101"}, {5, 2, 8, "00000101"}, {5, 3, 0, "12"}, {14, 15, 0, "e"}, {15, 15, 0, "10"},
		{math.MaxUint64, 10, 0, "18446744073709551615"}, {math.MaxUint64, 16, 0, "ffffffffffffffff"},
		{math.MaxUint64, 2, 0, strings.Repeat("1", 64)}, {math.MaxUint64, 2, 64, strings.Repeat("1", 64)},
		{1, 2, 64, strings.Repeat("0", 63) + "1"}, {math.MaxUint64, 16, 64, strings.Repeat("0", 48) + "ffffffffffffffff"},
	} {
		got, err := Print(c.n, c.base, c.width)
		if got != c.want || err != nil {
			t.Errorf("Print(%d, %d, %d) = %q, %v; want %q", c.n, c.base, c.width, got, err, c.want)
		}
	}
}

// 4.1: Print, held against the language's own digits, of each base and each width; what is printed is parsed, in great letters, too.
func TestPrintParse(t *testing.T) {
	numbers(func(n uint64) {
		for base := 2; base <= 16; base++ {
			want := strconv.FormatUint(n, base)
			for _, width := range []int{0, 1, len(want) - 1, len(want), min(len(want)+1, 64), 64} {
				ahead := strings.Repeat("0", max(width-len(want), 0))
				got, err := Print(n, base, width)
				if got != ahead+want || err != nil {
					t.Fatalf("Print(%d, %d, %d) = %q, %v; want %q", n, base, width, got, err, ahead+want)
				}
				for _, s := range []string{got, strings.ToUpper(got)} {
					if back, err := Parse(s, base); back != n || err != nil {
						t.Fatalf("Parse(%q, %d) = %d, %v; want %d", s, base, back, err, n)
					}
				}
			}
		}
	})
}

// 4.1: Print: ErrArg: base is not from 2 to 16; then ErrRange: width is not from 0 to 64; nothing else is told then.
func TestPrintErrors(t *testing.T) {
	wrongWidths := []int{math.MinInt, -64, -1, 65, 128, math.MaxInt}
	for _, base := range wrongBases {
		for _, width := range append([]int{0, 1, 64}, wrongWidths...) {
			if s, err := Print(12, base, width); s != "" || placeless(err) != api.ErrArg {
				t.Errorf("Print(12, %d, %d) = %q, %v; want ErrArg", base, width, s, err)
			}
		}
	}
	for base := 2; base <= 16; base++ {
		for _, width := range wrongWidths {
			if s, err := Print(12, base, width); s != "" || placeless(err) != api.ErrRange {
				t.Errorf("Print(12, %d, %d) = %q, %v; want ErrRange", base, width, s, err)
			}
		}
		for width := range 65 {
			if s, err := Print(1, base, width); len(s) != max(width, 1) || err != nil {
				t.Errorf("Print(1, %d, %d) = %q, %v", base, width, s, err)
			}
		}
	}
}

// 4.1: Parse, by numbers that are told here.
func TestParse(t *testing.T) {
	for _, c := range []struct {
		s    string
		base int
		want uint64
	}{
		{"0", 10, 0}, {"000", 2, 0}, {"7", 8, 7}, {"0123", 10, 123}, {"101", 2, 5}, {"101", 16, 257}, {"aBcDeF", 16, 0xabcdef}, {"FF", 16, 255}, {"E", 15, 14},
		{"18446744073709551615", 10, math.MaxUint64}, {"ffffffffffffffff", 16, math.MaxUint64}, {strings.Repeat("1", 64), 2, math.MaxUint64},
		{strings.Repeat("0", 1000) + "18446744073709551615", 10, math.MaxUint64}, {strings.Repeat("0", 1000), 16, 0}, {strings.Repeat("0", 100) + "1", 2, 1},
	} {
		got, err := Parse(c.s, c.base)
		if got != c.want || err != nil {
			t.Errorf("Parse(%q, %d) = %d, %v; want %d", c.s, c.base, got, err, c.want)
		}
	}
}

// 4.1: Parse: ErrArg; then ErrForm: s is empty, or a byte is no Digit below base, also where the digits are too many; then ErrRange; nothing else is told then.
func TestParseErrors(t *testing.T) {
	for _, c := range []struct {
		s    string
		base int
		want api.Errno
	}{
		{"", 10, api.ErrForm}, {"", 2, api.ErrForm}, {"", 16, api.ErrForm},
		{"-1", 10, api.ErrForm}, {"+1", 10, api.ErrForm}, {" 1", 10, api.ErrForm}, {"1 ", 10, api.ErrForm}, {"1_0", 10, api.ErrForm}, {"1\n", 10, api.ErrForm},
		{"0x1", 16, api.ErrForm}, {"0b1", 10, api.ErrForm}, {"g", 16, api.ErrForm}, {"1G", 16, api.ErrForm}, {"1\x00", 10, api.ErrForm}, {"\xff", 16, api.ErrForm}, {"٣", 10, api.ErrForm},
		{"18446744073709551616", 10, api.ErrRange}, {"18446744073709551620", 10, api.ErrRange}, {"28446744073709551615", 10, api.ErrRange},
		{"10000000000000000", 16, api.ErrRange}, {"1" + strings.Repeat("0", 64), 2, api.ErrRange}, {"0018446744073709551616", 10, api.ErrRange},
		{strings.Repeat("9", 1000), 10, api.ErrRange}, {strings.Repeat("f", 1000), 16, api.ErrRange},
		{"18446744073709551616x", 10, api.ErrForm}, {"x18446744073709551616", 10, api.ErrForm}, {strings.Repeat("f", 1000) + "g", 16, api.ErrForm}, {strings.Repeat("1", 100) + "2", 2, api.ErrForm},
	} {
		if n, err := Parse(c.s, c.base); n != 0 || placeless(err) != c.want {
			t.Errorf("Parse(%q, %d) = %d, %v; want error %d", c.s, c.base, n, err, c.want)
		}
	}
	for _, base := range wrongBases {
		for _, s := range []string{"", "0", "1", "x", strings.Repeat("1", 100)} {
			if n, err := Parse(s, base); n != 0 || placeless(err) != api.ErrArg {
				t.Errorf("Parse(%q, %d) = %d, %v; want ErrArg", s, base, n, err)
			}
		}
	}
}

// 4.1: of each base just the digits below it are taken, at whichever end.
func TestParseDigits(t *testing.T) {
	for base := 2; base <= 16; base++ {
		for c := range 256 {
			b := string([]byte{byte(c)})
			d := Digit(byte(c))
			for _, s := range []string{b, "1" + b, b + "1", "1" + b + "1"} {
				n, err := Parse(s, base)
				if d >= 0 && d < base {
					want, _ := strconv.ParseUint(s, base, 64)
					if n != want || err != nil {
						t.Errorf("Parse(%q, %d) = %d, %v; want %d", s, base, n, err, want)
					}
				} else if n != 0 || placeless(err) != api.ErrForm {
					t.Errorf("Parse(%q, %d) = %d, %v; want ErrForm", s, base, n, err)
				}
			}
		}
	}
}

// 4.1: of each base 2^64 - 1 is the last number that there is: what stands above it is told, not wrapped round.
func TestParseAbove(t *testing.T) {
	top := new(big.Int).SetUint64(math.MaxUint64)
	for base := 2; base <= 16; base++ {
		for above := int64(1); above <= 40; above++ {
			n := new(big.Int).Add(top, big.NewInt(above))
			for _, s := range []string{n.Text(base), n.Text(base) + "0", "0" + n.Text(base), new(big.Int).Lsh(n, uint(above)).Text(base)} {
				if got, err := Parse(s, base); got != 0 || placeless(err) != api.ErrRange {
					t.Errorf("Parse(%q, %d) = %d, %v; want ErrRange", s, base, got, err)
				}
			}
		}
		if got, err := Parse(top.Text(base), base); got != math.MaxUint64 || err != nil {
			t.Errorf("Parse(%q, %d) = %d, %v", top.Text(base), base, got, err)
		}
	}
}

// 4.2: Number, by numbers that are told here.
func TestNumber(t *testing.T) {
	for _, c := range []struct {
		s    string
		want int
	}{
		{"0", 0}, {"-0", 0}, {"00", 0}, {"-000", 0}, {"7", 7}, {"-7", -7}, {"007", 7}, {"-010", -10}, {"010", 10},
		{"0x0", 0}, {"-0x0", 0}, {"0x1f", 31}, {"0xFf", 255}, {"-0x1F", -31}, {"0x000a", 10}, {"0xb", 11}, {"0x0b1", 177},
		{"0b0", 0}, {"-0b0", 0}, {"0b101", 5}, {"-0b101", -5}, {"0b0011", 3},
		{"9223372036854775807", math.MaxInt}, {"-9223372036854775807", -math.MaxInt}, {"-9223372036854775808", math.MinInt},
		{"0x7fffffffffffffff", math.MaxInt}, {"-0x8000000000000000", math.MinInt}, {"-0x7fffffffffffffff", -math.MaxInt},
		{"0b" + strings.Repeat("1", 63), math.MaxInt}, {"-0b1" + strings.Repeat("0", 63), math.MinInt},
		{"-" + strings.Repeat("0", 100) + "9223372036854775808", math.MinInt}, {"0x" + strings.Repeat("0", 100) + "7fffffffffffffff", math.MaxInt},
	} {
		got, err := Number(c.s)
		if got != c.want || err != nil {
			t.Errorf("Number(%q) = %d, %v; want %d", c.s, got, err, c.want)
		}
	}
}

// 4.2: Parse's errors, of what stands behind; then ErrRange: it is below -2^63 or above 2^63 - 1; nothing else is told then.
func TestNumberErrors(t *testing.T) {
	for _, c := range []struct {
		s    string
		want api.Errno
	}{
		{"", api.ErrForm}, {"-", api.ErrForm}, {"--1", api.ErrForm}, {"+1", api.ErrForm}, {"-+1", api.ErrForm}, {" 1", api.ErrForm}, {"- 1", api.ErrForm}, {"1 ", api.ErrForm}, {"1-", api.ErrForm},
		{"0x", api.ErrForm}, {"-0x", api.ErrForm}, {"0b", api.ErrForm}, {"-0b", api.ErrForm}, {"0x-1", api.ErrForm}, {"0b-1", api.ErrForm}, {"0x 1", api.ErrForm},
		{"0X1", api.ErrForm}, {"0B1", api.ErrForm}, {"x1", api.ErrForm}, {"b1", api.ErrForm}, {"00x1", api.ErrForm}, {"00b1", api.ErrForm}, {"1x1", api.ErrForm}, {"0x0x1", api.ErrForm}, {"0b0b1", api.ErrForm},
		{"0o7", api.ErrForm}, {"1a", api.ErrForm}, {"a", api.ErrForm}, {"0xg", api.ErrForm}, {"0b2", api.ErrForm}, {"-0b12", api.ErrForm}, {"1_000", api.ErrForm}, {"1.0", api.ErrForm}, {"\xff", api.ErrForm},
		{"9223372036854775808", api.ErrRange}, {"-9223372036854775809", api.ErrRange}, {"0x8000000000000000", api.ErrRange}, {"-0x8000000000000001", api.ErrRange},
		{"0b1" + strings.Repeat("0", 63), api.ErrRange}, {"-0b1" + strings.Repeat("0", 62) + "1", api.ErrRange},
		{"18446744073709551615", api.ErrRange}, {"-18446744073709551615", api.ErrRange}, {"18446744073709551616", api.ErrRange}, {"-18446744073709551616", api.ErrRange},
		{"-0xffffffffffffffff", api.ErrRange}, {"0x10000000000000000", api.ErrRange}, {"-0x10000000000000001", api.ErrRange},
		{"99999999999999999999x", api.ErrForm}, {"-0b" + strings.Repeat("1", 99) + "2", api.ErrForm}, {"-0x" + strings.Repeat("f", 99) + "g", api.ErrForm},
	} {
		if n, err := Number(c.s); n != 0 || placeless(err) != c.want {
			t.Errorf("Number(%q) = %d, %v; want error %d", c.s, n, err, c.want)
		}
	}
}

// 4.2: each number of 64 bits with a sign is read, as it is written in each of the three ways.
func TestNumberAll(t *testing.T) {
	numbers(func(u uint64) {
		for _, n := range []int{int(u), -int(u)} {
			sign, rest := "", uint64(n)
			if n < 0 {
				sign, rest = "-", -uint64(n)
			}
			for _, s := range []string{strconv.Itoa(n), sign + "0" + strconv.FormatUint(rest, 10), sign + "0x" + strconv.FormatUint(rest, 16), sign + "0b" + strconv.FormatUint(rest, 2)} {
				if got, err := Number(s); got != n || err != nil {
					t.Fatalf("Number(%q) = %d, %v; want %d", s, got, err, n)
				}
			}
		}
	})
}

// 4.3: Hex: two digits a byte.
func TestHex(t *testing.T) {
	for _, c := range []struct{ s, want string }{
		{"", ""}, {"\x00", "00"}, {"J", "4a"}, {"\x0f\xf0", "0ff0"}, {"abc", "616263"}, {"\xab\xcd\xef\x01\x23\x45\x67\x89", "abcdef0123456789"}, {"é", "c3a9"},
	} {
		if got := Hex(c.s); got != c.want {
			t.Errorf("Hex(%q) = %q; want %q", c.s, got, c.want)
		}
	}
	all := ""
	for c := range 256 {
		all += string([]byte{byte(c)})
	}
	if got := Hex(all); got != hex.EncodeToString([]byte(all)) {
		t.Errorf("Hex(all bytes) = %q", got)
	}
	for _, s := range []string{Hex(all), strings.ToUpper(Hex(all))} {
		if got, err := Unhex(s); got != all || err != nil {
			t.Errorf("Unhex(%q) = %q, %v", s, got, err)
		}
	}
}

// 4.3: Unhex: two Digits are a byte; blanks where a byte begins are gone over, at both ends, too.
func TestUnhex(t *testing.T) {
	for _, c := range []struct{ s, want string }{
		{"", ""}, {" ", ""}, {"   ", ""}, {"4a", "J"}, {"4A", "J"}, {"4a 4B", "JK"}, {" 4a ", "J"}, {"   4a   4b4c ", "JKL"}, {"00", "\x00"}, {"fF0f", "\xff\x0f"}, {"01 23456789abcdef", "\x01\x23\x45\x67\x89\xab\xcd\xef"},
	} {
		got, err := Unhex(c.s)
		if got != c.want || err != nil {
			t.Errorf("Unhex(%q) = %q, %v; want %q", c.s, got, err, c.want)
		}
	}
}

// 4.3: ErrForm, an At at the first of both that is no Digit: at the text's end, if there is no second one; nothing else is told then.
func TestUnhexErrors(t *testing.T) {
	for _, c := range []struct {
		s     string
		place int
	}{
		{"4", 1}, {"g", 0}, {"4g", 1}, {"g4", 0}, {"gg", 0}, {"4 ", 1}, {"4 a", 1}, {" 4", 2}, {"  g", 2}, {" 4 ", 2},
		{"4a4", 3}, {"4a 4", 4}, {"4a4 b", 3}, {"4a g", 3}, {"4a 4g", 4}, {"4ag4", 2}, {"4a 4 4b", 4}, {"4a4b4c4 ", 7}, {"4a4g4", 3},
		{"0x4a", 1}, {"-4", 0}, {"4-", 1}, {"4a\n", 2}, {"\t4a", 0}, {"4a\t4b", 2}, {"4a\x00", 2}, {"4a\xff", 2}, {"4\xc2\xa0", 1}, {"4a\xc2\xa04b", 2},
		{strings.Repeat("4a", 500) + "4", 1001}, {strings.Repeat(" 4a", 500) + " 4", 1502}, {strings.Repeat("4a ", 500) + "x", 1500},
	} {
		checkUnhexError(t, c.s, c.place)
	}
}

func checkUnhexError(t *testing.T, s string, place int) {
	t.Helper()
	got, err := Unhex(s)
	var at *api.At
	if got != "" || api.Tell(err) != api.ErrForm || !errors.As(err, &at) || at.Place != place {
		t.Errorf("Unhex(%q) = %q, %#v; want ErrForm at %d", s, got, err, place)
	}
}

// 4.3: each byte, where a byte begins, and where its second digit stands.
func TestUnhexBytes(t *testing.T) {
	for c := range 256 {
		b := string([]byte{byte(c)})
		if Digit(byte(c)) >= 0 {
			n, _ := strconv.ParseUint(b+"a", 16, 8)
			m, _ := strconv.ParseUint("a"+b, 16, 8)
			if got, err := Unhex("4a" + b + "a a" + b); got != "J"+string([]byte{byte(n), byte(m)}) || err != nil {
				t.Errorf("Unhex of %q = %q, %v", b, got, err)
			}
			checkUnhexError(t, "4a"+b, 3)
			continue
		}
		checkUnhexError(t, "4aa"+b+"4b", 3)
		if b != " " {
			checkUnhexError(t, "4a"+b+"a4b", 2)
		}
	}
}
