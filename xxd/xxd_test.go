package xxd

import (
	"errors"
	"fmt"
	"math"
	"math/big"
	"strings"
	"testing"

	"escritoire/api"
)

// drawn is numbers that look drawn, the same each time.
type drawn uint64

func (d *drawn) below(most int) int {
	*d = *d*6364136223846793005 + 1442695040888963407
	return int(uint64(*d>>33) % uint64(most))
}

// text is just so many bytes, each of them one of kinds.
func (d *drawn) text(n int, kinds string) string {
	b := make([]byte, n)
	for i := range b {
		b[i] = kinds[d.below(len(kinds))]
	}
	return string(b)
}

// texts goes through all texts of up to so many bytes, each of them one of kinds.
func texts(most int, kinds string, do func(s string)) {
	level := []string{""}
	for n := 0; ; n++ {
		var next []string
		for _, s := range level {
			do(s)
			for i := range len(kinds) {
				next = append(next, s+kinds[i:i+1])
			}
		}
		if n == most {
			return
		}
		level = next
	}
}

// every is all bytes that there are, once each.
func every() string {
	b := make([]byte, 256)
	for i := range b {
		b[i] = byte(i)
	}
	return string(b)
}

// none is the place of an error that has none.
const none = -1

// place is the Errno of an error, and its place.
func place(err error) (api.Errno, int) {
	var a *api.At
	if errors.As(err, &a) {
		return a.Err, a.Place
	}
	return api.Tell(err), none
}

// same holds a text, its error and that one's place against what is wanted.
func same(t *testing.T, what, got string, err error, want string, wrong api.Errno, at int) {
	t.Helper()
	if e, p := place(err); e != wrong || p != at || e != api.Tell(err) {
		t.Errorf("%.300s: error %v at %d, want %v at %d", what, e, p, wrong, at)
	}
	if got != want {
		t.Errorf("%.300s = %.300q of %d bytes, want %.300q of %d", what, got, len(got), want, len(want))
	}
}

// dumpTold is Dump, as the words tell it, of numbers that are right.
func dumpTold(s string, cols, group int) string {
	ends := 0 // where cols bytes would end
	for i := range cols {
		ends += 2
		if i%group == 0 {
			ends++
		}
	}
	all := ""
	for from := 0; from < len(s); from += cols {
		line, shown := "", ""
		for i, c := range []byte(s[from:min(from+cols, len(s))]) {
			if i%group == 0 {
				line += " "
			}
			line += fmt.Sprintf("%02x", c)
			if c >= 32 && c < 127 {
				shown += string(rune(c))
			} else {
				shown += "."
			}
		}
		all += fmt.Sprintf("%08x:%-*s  %s\n", from, ends, line, shown)
	}
	return all
}

// digit is what a byte is as a digit; -1: none.
func digit(c byte) int {
	return strings.IndexByte("0123456789abcdef", c|(c&64)>>1)
}

// loadTold is Load, as the words tell it: each byte lies at its place, until all are put together.
func loadTold(s string) (string, api.Errno, int) {
	told, behind, begin := map[int]byte{}, 0, 0
	for _, line := range strings.Split(s, "\n") {
		to, at := behind, 0
		if colon := strings.IndexByte(line, ':'); colon >= 0 {
			n := big.NewInt(0)
			for _, c := range []byte(line[:colon]) {
				if digit(c) < 0 {
					return "", api.ErrForm, begin
				}
				n.Add(n.Mul(n, big.NewInt(16)), big.NewInt(int64(digit(c))))
			}
			if colon == 0 || n.Cmp(big.NewInt(4000)) > 0 {
				return "", api.ErrForm, begin
			}
			to, at = int(n.Int64()), colon+1
		}
		for first := at; at < len(line); {
			blank := line[at] == ' '
			if blank && at > first && at+1 < len(line) && line[at+1] == ' ' {
				break
			}
			if blank {
				at++
				continue
			}
			if at+1 == len(line) || digit(line[at]) < 0 || digit(line[at+1]) < 0 {
				return "", api.ErrForm, begin + at
			}
			if to >= 4000 {
				return "", api.ErrLimit, none
			}
			told[to] = byte(digit(line[at])*16 + digit(line[at+1]))
			to, at = to+1, at+2
			behind = max(behind, to)
		}
		begin += len(line) + 1
	}
	b := make([]byte, behind)
	for i, c := range told {
		b[i] = c
	}
	return string(b), api.OK, none
}

// 13.1: texts, and their lines, reckoned by hand.
func TestDumpTold(t *testing.T) {
	for _, c := range []struct {
		s           string
		cols, group int
		want        string
	}{
		{"", 16, 1, ""},
		{"", 1, 1, ""},
		{"A", 1, 1, "00000000: 41  A\n"},
		{"AB", 1, 1, "00000000: 41  A\n00000001: 42  B\n"},
		{"ABC", 2, 1, "00000000: 41 42  AB\n00000002: 43     C\n"},
		{"ABC", 2, 2, "00000000: 4142  AB\n00000002: 43    C\n"},
		// Just a line's bytes, one fewer and one more.
		{"ABC", 4, 2, "00000000: 4142 43    ABC\n"},
		{"ABCD", 4, 2, "00000000: 4142 4344  ABCD\n"},
		{"ABCDE", 4, 2, "00000000: 4142 4344  ABCD\n00000004: 45         E\n"},
		// Groups that don't part a line evenly.
		{"ABCDEFG", 5, 2, "00000000: 4142 4344 45  ABCDE\n00000005: 4647          FG\n"},
		{"ABCDEFGHI", 5, 3, "00000000: 414243 4445  ABCDE\n00000005: 464748 49    FGHI\n"},
		{"ABCDEF", 5, 4, "00000000: 41424344 45  ABCDE\n00000005: 46           F\n"},
		// Bytes of which Shown has nothing to show.
		{"\x00\x1f ~\x7f\x80\xff\n", 8, 4, "00000000: 001f207e 7f80ff0a  .. ~....\n"},
		{"::  ", 4, 1, "00000000: 3a 3a 20 20  ::  \n"},
		{"\xab\xcd\xef", 3, 3, "00000000: abcdef  ...\n"},
	} {
		got, err := Dump(c.s, c.cols, c.group)
		same(t, fmt.Sprintf("Dump(%q, %d, %d)", c.s, c.cols, c.group), got, err, c.want, api.OK, none)
		if told := dumpTold(c.s, c.cols, c.group); told != c.want {
			t.Errorf("dumpTold(%q, %d, %d) = %q, want %q", c.s, c.cols, c.group, told, c.want)
		}
	}
}

// 13.1: which cols and groups there may be.
func TestDumpRange(t *testing.T) {
	numbers := []int{math.MinInt, math.MinInt + 1, -256, -1, 0, 1, 2, 3, 16, 255, 256, 257, 512, math.MaxInt - 1, math.MaxInt}
	for _, s := range []string{"", "a", every() + every()[:17]} {
		for _, cols := range numbers {
			for _, group := range append(numbers, cols-1, cols, cols+1) {
				want, wrong := "", api.ErrRange
				if cols >= 1 && cols <= api.MaxCols && group >= 1 && group <= cols {
					want, wrong = dumpTold(s, cols, group), api.OK
				}
				got, err := Dump(s, cols, group)
				same(t, fmt.Sprintf("Dump(%.20q, %d, %d)", s, cols, group), got, err, want, wrong, none)
			}
		}
	}
}

// 13.1, 13.2: all cols and groups, and texts of any length, as the words tell it; Load reads them all.
func TestDumpAll(t *testing.T) {
	hold := func(s string, cols, group int) {
		t.Helper()
		what := fmt.Sprintf("Dump(%.40q, %d, %d)", s, cols, group)
		lines, err := Dump(s, cols, group)
		same(t, what, lines, err, dumpTold(s, cols, group), api.OK, none)
		back, err := Load(lines)
		same(t, "Load of "+what, back, err, s, api.OK, none)
	}
	d := drawn(1)
	for cols := 1; cols <= 20; cols++ {
		for group := 1; group <= cols; group++ {
			for n := range 45 {
				hold(d.text(n, every()), cols, group)
			}
			hold(d.text(60, ":  \n~"), cols, group)
		}
	}
	for cols := 1; cols <= api.MaxCols; cols += 1 + cols/40 {
		for _, group := range []int{1, 2, 3, cols/2 + 1, cols} {
			if group <= cols {
				hold(d.text(cols*2-1, every()), cols, group)
				hold(d.text(cols*2+1, every()), cols, group)
			}
		}
	}
	for _, n := range []int{0xfff, 0x1000, 0x1001, 0x10001, 70000} {
		s := d.text(n, every())
		got, err := Dump(s, 256, 7)
		same(t, "Dump of many bytes", got, err, dumpTold(s, 256, 7), api.OK, none)
	}
	hold(d.text(api.MaxBytes, every()), 16, 2)
}

// 13.1: two digits a byte, 30 bytes a line.
func TestPlain(t *testing.T) {
	line := "000102030405060708090a0b0c0d0e0f101112131415161718191a1b1c1d\n"
	for _, c := range []struct{ s, want string }{
		{"", ""},
		{"\x00", "00\n"},
		{"JK\xff", "4a4bff\n"},
		{every()[:29], line[:58] + "\n"},
		{every()[:30], line},
		{every()[:31], line + "1e\n"},
		{strings.Repeat(every()[:30], 2), line + line},
		{strings.Repeat(every()[:30], 2) + ": ", line + line + "3a20\n"},
	} {
		got := Plain(c.s)
		same(t, fmt.Sprintf("Plain(%q)", c.s), got, nil, c.want, api.OK, none)
	}
	d := drawn(2)
	for n := range 400 {
		s, want := d.text(n, every()), ""
		for i := range n {
			want += fmt.Sprintf("%02x", s[i])
			if i%30 == 29 || i == n-1 {
				want += "\n"
			}
		}
		same(t, fmt.Sprint("Plain of ", n), Plain(s), nil, want, api.OK, none)
		back, err := Load(want)
		same(t, fmt.Sprint("Load of Plain of ", n), back, err, s, api.OK, none)
	}
	s := d.text(100_000, every())
	if got := Plain(s); len(got) != 203_334 {
		t.Errorf("Plain of 100000 has %d bytes", len(got))
	}
}

// 13.2: lines, and the bytes that they tell, reckoned by hand.
func TestLoadTold(t *testing.T) {
	for _, c := range []struct{ s, want string }{
		{"", ""},
		{"\n", ""},
		{"\n\n\n", ""},
		{"41", "A"},
		{"41\n", "A"},
		{"41\n42", "AB"},
		{"41\n\n42\n\n", "AB"},
		{"\n41", "A"},
		{"414243", "ABC"},
		{"41 4243 44", "ABCD"},
		{"4a4B Ff fF", "JK\xff\xff"},
		// Places, of digits of either case, with and without noughts ahead.
		{"0:41", "A"},
		{"0: 41", "A"},
		{"00000000: 41 42", "AB"},
		{strings.Repeat("0", 100) + ": 41", "A"},
		{"2: 41", "\x00\x00A"},
		{"a:41", strings.Repeat("\x00", 10) + "A"},
		{"A:41", strings.Repeat("\x00", 10) + "A"},
		{"10:41", strings.Repeat("\x00", 16) + "A"},
		// Out of order, or twice.
		{"2: 43 44\n0: 41 42", "ABCD"},
		{"2: 43\n0: 41", "A\x00C"},
		{"0: 41 42 43\n1: 58", "AXC"},
		{"0: 41 42\n0: 58 59 5a", "XYZ"},
		{"0: 41\n0: 42\n0: 43", "C"},
		{"1: 42\n1: 00", "\x00\x00"},
		// Without a place: behind all that were told.
		{"0: 41\n42", "AB"},
		{"2: 43\n44", "\x00\x00CD"},
		{"2: 43\n0: 41\n44", "A\x00CD"},
		{"0: 41 42 43\n0: 58\n44", "XBCD"},
		{"41 42\n0: 58\n43\n5: 46\n47", "XBC\x00\x00FG"},
		// A place of which no byte is told tells none.
		{"5:", ""},
		{"4:", ""},
		{"fa0:", ""},
		{"0:", ""},
		{"5:\n41", "A"},
		{"5: \n41", "A"},
		{"5:  \n41", "A"},
		{"41\n5:\n42", "AB"},
		// Only the first colon tells of a place.
		{"0: 41  :", "A"},
		{"0: 41  1: 42", "A"},
		{"0: 41 42  AB:\n", "AB"},
		// Blanks.
		{" ", ""},
		{"  ", ""},
		{"   ", ""},
		{" 41", "A"},
		{"41 ", "A"},
		{"41 \n42", "AB"},
		{" 41 42 ", "AB"},
		{"41  ", "A"},
		{"41  42", "A"},
		{"41  zz", "A"},
		{"41  zz\n42", "AB"},
		{"41   42", "A"},
		{"  41", "A"},
		{"  41 42", "AB"},
		{"  41  42", "A"},
		{"   41", ""},
		{"   zz", ""},
		{"    41", ""},
		{"0:  41", "A"},
		{"0:  41 42", "AB"},
		{"0:  41  42", "A"},
		{"0:   41", ""},
		{"0:   zz\n42", "B"},
		{"0:41  42", "A"},
		{"0: 41  4", "A"},
		{"0: 41  \xff\x00", "A"},
	} {
		got, err := Load(c.s)
		same(t, fmt.Sprintf("Load(%q)", c.s), got, err, c.want, api.OK, none)
		if told, wrong, _ := loadTold(c.s); told != c.want || wrong != api.OK {
			t.Errorf("loadTold(%q) = %q, %v, want %q", c.s, told, wrong, c.want)
		}
	}
}

// 13.2: lines that can't be read, and where.
func TestLoadForm(t *testing.T) {
	for _, c := range []struct {
		s  string
		at int
	}{
		// Places: of no digits, of others, too great ones.
		{":", 0},
		{": 41", 0},
		{":41", 0},
		{"::", 0},
		{"41\n:", 3},
		{"41\n\n: 42", 4},
		{"g: 41", 0},
		{" 0: 41", 0},
		{"0 : 41", 0},
		{"0x0: 41", 0},
		{"-1: 41", 0},
		{"+0: 41", 0},
		{"0 0: 41", 0},
		{"\x00: 41", 0},
		{"\xff: 41", 0},
		{"\r0: 41", 0},
		{"41  :", 0},
		{"  :", 0},
		{"fa1:", 0},
		{"fa1: 41", 0},
		{"FA1:", 0},
		{"0fa1:", 0},
		{"1000:", 0},
		{"0: 41\nfa1: 42", 6},
		{"10000000000000000:", 0},
		{"10000000000000001: 41", 0},
		{"ffffffffffffffff: 41", 0},
		{"8000000000000000: 41", 0},
		{"100000000: 41", 0},
		{strings.Repeat("f", 1000) + ": 41", 0},
		{"0: 41\n\n" + strings.Repeat("9", 100) + ":", 7},
		// Bytes: one digit alone, a blank between two, others.
		{"4", 0},
		{"0:4", 2},
		{"0: 4", 3},
		{"0: 41 4", 6},
		{"0: 414", 5},
		{"0: 4\n1", 3},
		{"0: 41 4 ", 6},
		{"0: 4 1", 3},
		{"4 1", 0},
		{"41 4 2", 3},
		{"41 4  ", 3},
		{"0: 4g", 3},
		{"0: g4", 3},
		{"0: gg", 3},
		{"0: 41 4g", 6},
		{"0: 41g 42", 5},
		{"41zz", 2},
		{" zz", 1},
		{"  zz", 2},
		{"0: 41:42", 5},
		{"0:: 41", 2},
		{"0: 1: 42", 3},
		{"0: 41\r\n", 5},
		{"41\t42", 2},
		{"41\x00", 2},
		{"41 \xff", 3},
		{"4/", 0},
		{"4@", 0},
		{"4G", 0},
		{"4`", 0},
		{"0: 41\n1: 42\n4", 12},
		{"0: 41\n1: 42\n2: 43 4", 18},
		{"41\n42\n 4", 7},
		// The first one that is wrong.
		{"4\n:", 0},
		{":\n4", 0},
		{"g: 4", 0},
		{"fa1: 4", 0},
		{"0: 4\nfa1: 41", 3},
		{"0: 4g 4", 3},
	} {
		got, err := Load(c.s)
		same(t, fmt.Sprintf("Load(%.100q)", c.s), got, err, "", api.ErrForm, c.at)
		if told, wrong, at := loadTold(c.s); told != "" || wrong != api.ErrForm || at != c.at {
			t.Errorf("loadTold(%.100q) = %q, %v at %d, want %d", c.s, told, wrong, at, c.at)
		}
	}
}

// 13.2: bytes up to MaxBytes may be told; what is wrong first is answered.
func TestLoadLimit(t *testing.T) {
	full := strings.Repeat("41", api.MaxBytes)
	noughts := strings.Repeat("\x00", api.MaxBytes)
	for _, c := range []struct {
		s, want string
		wrong   api.Errno
		at      int
	}{
		{"f9f: 41", noughts[1:] + "A", api.OK, none},
		{"f9f: 41 ", noughts[1:] + "A", api.OK, none},
		{"f9f: 41  42", noughts[1:] + "A", api.OK, none},
		{"f9e: 41 42", noughts[2:] + "AB", api.OK, none},
		{"f9f: 41 42", "", api.ErrLimit, none},
		{"f9f: 4142", "", api.ErrLimit, none},
		{"f9f: 41\n42", "", api.ErrLimit, none},
		{"f9f: 41\n0: 42", "B" + noughts[2:] + "A", api.OK, none},
		{"fa0:", "", api.OK, none},
		{"fa0: ", "", api.OK, none},
		{"fa0:   41", "", api.OK, none},
		{"41\nFA0:\n42", "AB", api.OK, none},
		{"fa0: 41", "", api.ErrLimit, none},
		{"0fa0: 41", "", api.ErrLimit, none},
		{"0: 41\nfa0: 41", "", api.ErrLimit, none},
		{full, strings.Repeat("A", api.MaxBytes), api.OK, none},
		{full + "\n\n0: 42", "B" + strings.Repeat("A", api.MaxBytes-1), api.OK, none},
		{full + "41", "", api.ErrLimit, none},
		{full + "\n41", "", api.ErrLimit, none},
		{full[2:] + " 41  41", strings.Repeat("A", api.MaxBytes), api.OK, none},
		// A byte that is none is told ahead of there being too many.
		{"fa0: 4", "", api.ErrForm, 5},
		{"fa0: 4g", "", api.ErrForm, 5},
		{"fa0: g", "", api.ErrForm, 5},
		{"f9f: 41 4g", "", api.ErrForm, 8},
		{full + "4", "", api.ErrForm, len(full)},
		{full + "\nzz", "", api.ErrForm, len(full) + 1},
		{full + "\n:", "", api.ErrForm, len(full) + 1},
		// Byte by byte, line by line: the first one that is wrong.
		{"fa0: 41 4g", "", api.ErrLimit, none},
		{"fa0: 41\n:", "", api.ErrLimit, none},
		{"fa0: 41\nfa1:", "", api.ErrLimit, none},
		{"f9f: 4g 41 42", "", api.ErrForm, 5},
		{"fa1: 41\nfa0: 41", "", api.ErrForm, 0},
		{"4g\nfa0: 41", "", api.ErrForm, 0},
	} {
		got, err := Load(c.s)
		same(t, fmt.Sprintf("Load(%.100q)", c.s), got, err, c.want, c.wrong, c.at)
	}
	got, err := Load(strings.Repeat(full+"\n", 100))
	same(t, "Load of very much", got, err, "", api.ErrLimit, none)
	got, err = Load(strings.Repeat("0: 41\n", 100_000))
	same(t, "Load of very many lines", got, err, "A", api.OK, none)
	got, err = Load(strings.Repeat("\n", 1_000_000) + ":")
	same(t, "Load of very many empty lines", got, err, "", api.ErrForm, 1_000_000)
}

// 13.2: each byte as a digit, first and second, in a place and in a line.
func TestLoadDigits(t *testing.T) {
	for i := range 256 {
		c := string([]byte{byte(i)})
		for _, s := range []string{c + "1", "1" + c, c, c + ":41", "0" + c + ": 41", "0: " + c + "1", "0: 1" + c, "0: 41" + c, "0: 41 " + c + "\n42"} {
			want, wrong, at := loadTold(s)
			got, err := Load(s)
			same(t, fmt.Sprintf("Load(%q)", s), got, err, want, wrong, at)
		}
	}
}

// 13.2: all short texts, and drawn lines, as the words tell it.
func TestLoadAll(t *testing.T) {
	hold := func(s string) {
		t.Helper()
		want, wrong, at := loadTold(s)
		got, err := Load(s)
		same(t, fmt.Sprintf("Load(%.200q)", s), got, err, want, wrong, at)
	}
	texts(7, "1a :\n", hold)
	texts(6, "1F :\ng", hold)
	d := drawn(3)
	for range 20_000 {
		s := ""
		for range d.below(6) {
			s += []string{"", "0:", "00000003:", "10:", "f9e:", "Fa0:", " ", "  ", "fa1:"}[d.below(8+d.below(2))]
			for range d.below(8) {
				s += []string{"41", "00", "fF", " ", " ", "  ", "1", "g", ":"}[d.below(6+d.below(4))]
			}
			s += "\n"
		}
		hold(s[:len(s)-d.below(min(2, len(s)+1))])
	}
	for range 5000 {
		s, err := Dump(d.text(d.below(60), "ab: \x00\xff"), 1+d.below(17), 1)
		if err != nil {
			t.Fatal(err)
		}
		b := []byte(s)
		for range d.below(3) {
			if len(b) > 0 {
				b[d.below(len(b))] = "0af: \ng"[d.below(7)]
			}
		}
		hold(string(b))
	}
}

// P4: an answer hangs on what is handed in alone.
func TestAgain(t *testing.T) {
	s := every() + every()
	a, _ := Dump(s, 16, 2)
	b := Plain(s)
	c, _ := Load(a)
	for range 10 {
		x, err := Dump(s, 16, 2)
		same(t, "Dump again", x, err, a, api.OK, none)
		same(t, "Plain again", Plain(s), nil, b, api.OK, none)
		x, err = Load(a)
		same(t, "Load again", x, err, c, api.OK, none)
	}
}
