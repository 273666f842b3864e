package lex

import (
	"errors"
	"fmt"
	"regexp"
	"slices"
	"strings"
	"testing"

	"escritoire/api"
)

// each of the marks, as 15.1 names them, in that order.
var named = []string{"==", "!=", "{", "}", "[", "]", "(", ")", ";", ",", "=", "+", "-", "*", "&", "|", "<", ">"}

// drawn is numbers that look drawn, the same each time.
type drawn uint64

func (d *drawn) below(most int) int {
	*d = *d*6364136223846793005 + 1442695040888963407
	return int(uint64(*d>>33) % uint64(most))
}

// texts goes through all texts of up to so many bytes, each of them one of kinds.
func texts(most int, kinds string, do func(s string)) {
	level := []string{""}
	for range most + 1 {
		var next []string
		for _, s := range level {
			do(s)
			for i := range len(kinds) {
				next = append(next, s+kinds[i:i+1])
			}
		}
		level = next
	}
}

// place is an error's Errno, and the place that it has; -1, if it has none.
func place(err error) (api.Errno, int) {
	var a *api.At
	if errors.As(err, &a) {
		return api.Tell(err), a.Place
	}
	return api.Tell(err), -1
}

// tokens is a list of tokens: a text, and its place, each time.
func tokens(l ...any) []api.Token {
	var all []api.Token
	for i := 0; i < len(l); i += 2 {
		all = append(all, api.Token{Text: l[i].(string), At: l[i+1].(int)})
	}
	return all
}

// same holds what Lex tells of a text against what is wanted.
func same(t *testing.T, s string, want []api.Token, wrong api.Errno, where int) {
	t.Helper()
	got, err := Lex(s)
	e, at := place(err)
	if e != wrong || at != where {
		t.Errorf("Lex(%.200q): error %d at %d, want %d at %d", s, e, at, wrong, where)
	}
	if !slices.Equal(got, want) {
		t.Errorf("Lex(%.200q) = %.500s, want %.500s", s, fmt.Sprint(got), fmt.Sprint(want))
	}
}

var (
	overTold = regexp.MustCompile(`^(?:[ \n\t]|#[^\n]*)*`)
	wordTold = regexp.MustCompile(`^[a-zA-Z_0-9]+`)
)

// lexTold is Lex as 15.1 tells it, by patterns.
func lexTold(s string) ([]api.Token, api.Errno, int) {
	if len(s) > api.MaxText {
		return nil, api.ErrLimit, -1
	}
	var l []api.Token
	for at := 0; ; {
		// A pattern takes bytes that are no sign for one, as it must: each of them is another one than a line feed.
		at += len(overTold.FindString(s[at:]))
		if at == len(s) {
			return l, api.OK, -1
		}
		token := wordTold.FindString(s[at:])
		for _, m := range named {
			if token == "" && len(s)-at >= len(m) && s[at:at+len(m)] == m {
				token = m
			}
		}
		if token == "" {
			return nil, api.ErrForm, at
		}
		l = append(l, api.Token{Text: token, At: at})
		at += len(token)
	}
}

// 15.1: names, numbers and marks, with and without something between them.
func TestLex(t *testing.T) {
	for _, c := range []struct {
		s    string
		want []api.Token
	}{
		{"", nil},
		{" ", nil},
		{" \t\n \n\t", nil},
		{"#", nil},
		{"#\n", nil},
		{"# no token # \x00\xff\r @!", nil},
		{"# no token\n", nil},
		{"\n# one\n# two\n", nil},
		{"a", tokens("a", 0)},
		{" a", tokens("a", 1)},
		{"a ", tokens("a", 0)},
		{"_", tokens("_", 0)},
		{"__ _0", tokens("__", 0, "_0", 3)},
		{"7", tokens("7", 0)},
		{"007 0x1F 0b12 9z_Z", tokens("007", 0, "0x1F", 4, "0b12", 9, "9z_Z", 14)},
		{"a1 1a a1a 1a1", tokens("a1", 0, "1a", 3, "a1a", 6, "1a1", 10)},
		{"azAZ09_", tokens("azAZ09_", 0)},
		{"a\tb\n# c\nd", tokens("a", 0, "b", 2, "d", 8)},
		{"a#b\nc", tokens("a", 0, "c", 4)},
		{"a#b", tokens("a", 0)},
		{"a#b#c\n#d\ne#", tokens("a", 0, "e", 9)},
		{"#\na", tokens("a", 2)},
		{"# # \n # \na", tokens("a", 9)},
		{"a+b", tokens("a", 0, "+", 1, "b", 2)},
		{"a + b", tokens("a", 0, "+", 2, "b", 4)},
		{"-1", tokens("-", 0, "1", 1)},
		{"{}[]();,", tokens("{", 0, "}", 1, "[", 2, "]", 3, "(", 4, ")", 5, ";", 6, ",", 7)},
		{"=+-*&|<>", tokens("=", 0, "+", 1, "-", 2, "*", 3, "&", 4, "|", 5, "<", 6, ">", 7)},
		{"==", tokens("==", 0)},
		{"= =", tokens("=", 0, "=", 2)},
		{"===", tokens("==", 0, "=", 2)},
		{"====", tokens("==", 0, "==", 2)},
		{"=====", tokens("==", 0, "==", 2, "=", 4)},
		{"!=", tokens("!=", 0)},
		{"!==", tokens("!=", 0, "=", 2)},
		{"!===", tokens("!=", 0, "==", 2)},
		{"=!=", tokens("=", 0, "!=", 1)},
		{"==!=", tokens("==", 0, "!=", 2)},
		{"===!=", tokens("==", 0, "=", 2, "!=", 3)},
		{"!=!=", tokens("!=", 0, "!=", 2)},
		{"<=", tokens("<", 0, "=", 1)},
		{">==", tokens(">", 0, "==", 1)},
		{"&&||", tokens("&", 0, "&", 1, "|", 2, "|", 3)},
		{"a=b==c!=d", tokens("a", 0, "=", 1, "b", 2, "==", 3, "c", 5, "!=", 6, "d", 8)},
		{"=\n=", tokens("=", 0, "=", 2)},
		{"=#\n=", tokens("=", 0, "=", 3)},
		{"struct s { u8 n; bytes b[n]; }", tokens("struct", 0, "s", 7, "{", 9, "u8", 11, "n", 14, ";", 15, "bytes", 17, "b", 23, "[", 24, "n", 25, "]", 26, ";", 27, "}", 29)},
	} {
		same(t, c.s, c.want, api.OK, -1)
	}
}

// 15.1: each mark, alone, between words, and right ahead of each other one: the first one, in their order, that stands there.
func TestLexMarks(t *testing.T) {
	for _, m := range named {
		same(t, m, tokens(m, 0), api.OK, -1)
		same(t, " "+m+" ", tokens(m, 1), api.OK, -1)
		same(t, "a"+m+"0", tokens("a", 0, m, 1, "0", 1+len(m)), api.OK, -1)
		for _, n := range named {
			same(t, m+" "+n, tokens(m, 0, n, len(m)+1), api.OK, -1)
			want := tokens(m, 0, n, len(m))
			if m == "=" && n == "=" {
				want = tokens("==", 0)
			}
			if m == "=" && n == "==" {
				want = tokens("==", 0, "=", 2)
			}
			same(t, m+n, want, api.OK, -1)
		}
	}
}

// 15.1: each byte, alone, at the beginning, in the middle and at the end: none but those that are told begins a token, and its place is told.
func TestLexBytes(t *testing.T) {
	one := strings.Join(named[2:], "")
	for c := range 256 {
		b := string([]byte{byte(c)})
		switch {
		case strings.Contains(" \n\t", b):
			same(t, b, nil, api.OK, -1)
			same(t, "a"+b+"b", tokens("a", 0, "b", 2), api.OK, -1)
		case b == "#":
			same(t, b, nil, api.OK, -1)
			same(t, "a"+b+"b", tokens("a", 0), api.OK, -1)
		case strings.Contains("abcdefghijklmnopqrstuvwxyzABCDEFGHIJKLMNOPQRSTUVWXYZ_0123456789", b):
			same(t, b, tokens(b, 0), api.OK, -1)
			same(t, "a"+b+"b", tokens("a"+b+"b", 0), api.OK, -1)
			same(t, "+"+b+"+", tokens("+", 0, b, 1, "+", 2), api.OK, -1)
		case strings.Contains(one, b):
			same(t, b, tokens(b, 0), api.OK, -1)
			same(t, "a"+b+"b", tokens("a", 0, b, 1, "b", 2), api.OK, -1)
		default:
			same(t, b, nil, api.ErrForm, 0)
			same(t, b+"ab", nil, api.ErrForm, 0)
			same(t, "a"+b+"b", nil, api.ErrForm, 1)
			same(t, " ab "+b, nil, api.ErrForm, 4)
			same(t, "= "+b+" =", nil, api.ErrForm, 2)
		}
		if b != "\n" {
			same(t, "#"+b+"\na", tokens("a", 3), api.OK, -1)
			same(t, "#"+b, nil, api.OK, -1)
		}
	}
}

// 15.1: ErrForm where none begins: at the first such place, with nothing else.
func TestLexErrors(t *testing.T) {
	for _, c := range []struct {
		s  string
		at int
	}{
		{"!", 0}, {"a!", 1}, {"!a", 0}, {"! =", 0}, {"!!=", 0}, {"!=!", 2}, {"==!", 2}, {"=!", 1}, {"=! =", 1}, {"!\n=", 0}, {"a=b==c!=d!e", 9},
		{"a.b", 1}, {"1.5", 1}, {"a / b", 2}, {"a ? b : c", 2}, {"\"a\"", 0}, {"a%b", 1}, {"~a", 0}, {"a^b", 1}, {"$", 0}, {"@@", 0}, {"a @ b ! c", 2},
		{"\xff", 0}, {"a\x80", 1}, {"\u00e9", 0}, {"n\u00e9", 1}, {"\x00", 0}, {"a\x00b", 1}, {"a\r\nb", 1}, {"\r", 0}, {"a\vb", 1}, {"a\f", 1}, {"a\u00a0b", 1}, {"\u2028", 0},
		{"# @\n@", 4}, {"#\n#\n  !", 6}, {"a # @\n b # @\n .", 14}, {"a'", 1}, {"`", 0}, {"a\\", 1}, {"\x7f", 0},
	} {
		same(t, c.s, nil, api.ErrForm, c.at)
	}
}

// 15.1: ErrLimit: more than MaxText bytes, whatever they are; it has no place, and is told ahead of ErrForm.
func TestLexLimit(t *testing.T) {
	word := strings.Repeat("a", api.MaxText)
	same(t, word, tokens(word, 0), api.OK, -1)
	same(t, word+"a", nil, api.ErrLimit, -1)
	same(t, word+" ", nil, api.ErrLimit, -1)
	for _, c := range []string{" ", "\n", "\t", "#"} {
		same(t, strings.Repeat(c, api.MaxText), nil, api.OK, -1)
		same(t, strings.Repeat(c, api.MaxText+1), nil, api.ErrLimit, -1)
	}
	same(t, "#"+strings.Repeat("@", api.MaxText-1), nil, api.OK, -1)
	same(t, "#"+strings.Repeat("@", api.MaxText), nil, api.ErrLimit, -1)
	same(t, word[1:]+"@", nil, api.ErrForm, api.MaxText-1)
	same(t, word+"@", nil, api.ErrLimit, -1)
	same(t, "@"+word, nil, api.ErrLimit, -1)
	same(t, strings.Repeat("\x00", 1_000_000), nil, api.ErrLimit, -1)
	for n := api.MaxText - 3; n <= api.MaxText; n++ {
		l, err := Lex(strings.Repeat("=", n))
		if err != nil || len(l) != (n+1)/2 || l[len(l)-1].At != (n-1)/2*2 {
			t.Errorf("Lex of %d times =: %d tokens, %v", n, len(l), err)
		}
	}
	l, err := Lex(strings.Repeat("a ", api.MaxText/2))
	if err != nil || len(l) != api.MaxText/2 || l[len(l)-1] != (api.Token{Text: "a", At: api.MaxText - 2}) {
		t.Errorf("Lex of %d times a: %d tokens, %v", api.MaxText/2, len(l), err)
	}
}

// 15.1: Lex, held against patterns, of all short texts, and of drawn longer ones.
func TestLexAll(t *testing.T) {
	check := func(s string) {
		want, wrong, at := lexTold(s)
		same(t, s, want, wrong, at)
	}
	texts(6, "a=! #\n", check)
	texts(5, "Z_9-\t#\n@", check)
	texts(3, "a0{}[]();,=!+-*&|<>#\n ", check)
	d := drawn(1)
	bits := append([]string{"a", "Zz", "_", "0", "0x1f", "12", " ", "  ", "\n", "\t", "#", "# x = @\n", "!"}, named...)
	for i := range 3000 {
		var b strings.Builder
		for range d.below(40) {
			b.WriteString(bits[d.below(len(bits))])
		}
		s := b.String()
		if i%4 != 0 {
			s = strings.ReplaceAll(s, "!", "!=")
		}
		check(s)
	}
}

// 15.1: Name: does a text begin with a letter, whatever stands behind it?
func TestName(t *testing.T) {
	if Name("") {
		t.Error("no bytes are a Name")
	}
	letters := "abcdefghijklmnopqrstuvwxyzABCDEFGHIJKLMNOPQRSTUVWXYZ_"
	for c := range 256 {
		b := string([]byte{byte(c)})
		want := strings.Contains(letters, b)
		for _, s := range []string{b, b + "a", b + "0", b + b, b + "=", b + " ", b + "\x00\xff", b + strings.Repeat("a", api.MaxText)} {
			if Name(s) != want {
				t.Errorf("Name(%.20q) = %v", s, !want)
			}
		}
	}
	for _, m := range named {
		if Name(m) || Name(m+"a") || Name(" a") || Name("0a") || Name("#a\na") {
			t.Errorf("what begins with no letter, as %q, is a Name", m)
		}
	}
}

// P4: the same is told each time, and what was told is the caller's.
func TestLexAgain(t *testing.T) {
	s := "a == b # c\n+ 12"
	l, _ := Lex(s)
	want := slices.Clone(l)
	for i := range l {
		l[i] = api.Token{Text: "x", At: -1}
	}
	_ = append(l, api.Token{})
	if _, err := Lex("@"); err == nil {
		t.Error("@ is no token")
	}
	same(t, s, want, api.OK, -1)
	same(t, s, tokens("a", 0, "==", 2, "b", 5, "+", 11, "12", 13), api.OK, -1)
}
