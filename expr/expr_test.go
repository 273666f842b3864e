package expr

import (
	"errors"
	"fmt"
	"maps"
	"math"
	"math/big"
	"slices"
	"strconv"
	"strings"
	"testing"

	"escritoire/api"
	"escritoire/digits"
	"escritoire/lex"
)

// rows is the ops, as 16.1 names them: those of a row are of one kind, those of a later row bind more.
var rows = [][]string{{"==", "!=", "<", ">"}, {"+", "-", "|"}, {"*", "&"}}

// rank is the row in which an op stands; -1: it is none.
func rank(op string) int {
	return slices.IndexFunc(rows, func(row []string) bool { return slices.Contains(row, op) })
}

// ops is all ops.
func ops() []string {
	return slices.Concat(rows...)
}

// drawn is numbers that look drawn, the same each time.
type drawn uint64

func (d *drawn) below(most int) int {
	*d = *d*6364136223846793005 + 1442695040888963407
	return int(uint64(*d>>33) % uint64(most))
}

// one is one of several texts.
func (d *drawn) one(l ...string) string {
	return l[d.below(len(l))]
}

// written is an expression, so deep at most, with blanks and brackets as they come.
func (d *drawn) written(deep int) string {
	if deep == 0 || d.below(4) == 0 {
		return d.one("0", "1", "7", "0x1f", "0b101", "0012", "9223372036854775807", "0x8000", "a", "b", "c", "_x", "abcdefghijkl", "u8")
	}
	a, b := d.written(deep-1), d.written(deep-1)
	switch d.below(4) {
	case 0:
		return "(" + a + ")"
	case 1:
		return a + d.one(ops()...) + b
	}
	return a + " " + d.one(ops()...) + d.one(" ", "\n", "\t ", " # x\n") + b
}

// place is an error's Errno, and the place that it has; -1, if it has none.
func place(err error) (api.Errno, int) {
	var a *api.At
	if errors.As(err, &a) {
		return api.Tell(err), a.Place
	}
	return api.Tell(err), -1
}

// shape is an expression with all that is in it: each op in brackets, behind each part its place.
func shape(x *api.Expr) string {
	if x == nil {
		return "nil"
	}
	at := "@" + strconv.Itoa(x.At)
	switch x.Code {
	case api.Num:
		if *x == (api.Expr{Code: api.Num, At: x.At, N: x.N}) {
			return strconv.Itoa(x.N) + at
		}
	case api.Name:
		if *x == (api.Expr{Code: api.Name, At: x.At, Name: x.Name}) {
			return x.Name + at
		}
	case api.Bin:
		if x.N == 0 && x.Name == "" {
			return "(" + shape(x.Left) + " " + x.Op + at + " " + shape(x.Right) + ")"
		}
	}
	return fmt.Sprintf("no expression: %+v", *x)
}

// bare is an expression's shape without places.
func bare(x *api.Expr) string {
	if x == nil {
		return "nil"
	}
	y := *x
	y.At = 0
	if x.Code != api.Bin {
		return shape(&y)
	}
	return "(" + bare(x.Left) + " " + x.Op + " " + bare(x.Right) + ")"
}

// read is a text's expression, which must be one.
func read(t *testing.T, s string) *api.Expr {
	t.Helper()
	x, err := Parse(s)
	if err != nil || x == nil {
		t.Fatalf("Parse(%.300q) = %v, %v", s, x, err)
	}
	return x
}

// same holds what Parse tells of a text against a shape.
func same(t *testing.T, s, want string) {
	t.Helper()
	x, err := Parse(s)
	if got := shape(x); err != nil || got != want {
		t.Errorf("Parse(%.300q) = %.500s, %v; want %.500s", s, got, err, want)
	}
}

// wrong holds Parse's error against what is wanted.
func wrong(t *testing.T, s string, want api.Errno, where int) {
	t.Helper()
	x, err := Parse(s)
	if e, at := place(err); e != want || at != where || x != nil {
		t.Errorf("Parse(%.300q) = %.300s, error %d at %d; want %d at %d", s, shape(x), e, at, want, where)
	}
}

// errorTold is what is wrong with a text, token by token: either a thing is due, or an op, or a bracket that closes.
func errorTold(s string) (api.Errno, int) {
	l, err := lex.Lex(s)
	if err != nil {
		return place(err)
	}
	due, deep := true, 0
	for _, t := range l {
		first := t.Text[0]
		switch {
		case due && lex.Name(t.Text):
			if len(t.Text) > 12 {
				return api.ErrLimit, t.At
			}
			due = false
		case due && first >= '0' && first <= '9':
			if _, err := digits.Number(t.Text); err != nil {
				return api.Tell(err), t.At
			}
			due = false
		case due && first == '(':
			if deep == 8 {
				return api.ErrLimit, t.At
			}
			deep++
		case !due && first == ')' && deep > 0:
			deep--
		case !due && rank(t.Text) >= 0:
			due = true
		default:
			return api.ErrForm, t.At
		}
	}
	if due || deep > 0 {
		return api.ErrForm, len(s)
	}
	return api.OK, -1
}

// shapeTold is the shape of tokens that are an expression: they are parted at the last op, in no brackets, of those that bind least.
func shapeTold(l []api.Token) string {
	if len(l) == 1 {
		if n, err := digits.Number(l[0].Text); err == nil {
			return fmt.Sprint(n, "@", l[0].At)
		}
		return fmt.Sprint(l[0].Text, "@", l[0].At)
	}
	last, least, deep := -1, len(rows), 0
	for i, t := range l {
		switch {
		case t.Text == "(":
			deep++
		case t.Text == ")":
			deep--
		case deep == 0 && rank(t.Text) >= 0 && rank(t.Text) <= least:
			last, least = i, rank(t.Text)
		}
	}
	if last < 0 {
		return shapeTold(l[1 : len(l)-1])
	}
	return fmt.Sprint("(", shapeTold(l[:last]), " ", l[last].Text, "@", l[last].At, " ", shapeTold(l[last+1:]), ")")
}

// asTold holds Parse of a text against both.
func asTold(t *testing.T, s string) {
	t.Helper()
	if e, at := errorTold(s); e != api.OK {
		wrong(t, s, e, at)
		return
	}
	l, _ := lex.Lex(s)
	same(t, s, shapeTold(l))
}

// 16.1: single things, ops, and which of them stands in which; each with its place.
func TestParse(t *testing.T) {
	for _, c := range []struct{ s, want string }{
		{"a", "a@0"}, {" a ", "a@1"}, {"_", "_@0"}, {"Z9_", "Z9_@0"}, {"\n#\n\ta#", "a@4"},
		{"0", "0@0"}, {"12", "12@0"}, {"  0x1F", "31@2"}, {"0b101", "5@0"}, {"007", "7@0"}, {"9223372036854775807", "9223372036854775807@0"},
		{"struct", "struct@0"}, {"u8+bytes", "(u8@0 +@2 bytes@3)"}, {"when|size", "(when@0 |@4 size@5)"},
		{"(a)", "a@1"}, {"((7))", "7@2"}, {" ( ( a ) ) ", "a@5"},
		{"a+b", "(a@0 +@1 b@2)"}, {"a  -\n1", "(a@0 -@3 1@5)"}, {"(a*b)", "(a@1 *@2 b@3)"},
		{"a+b-c", "((a@0 +@1 b@2) -@3 c@4)"}, {"a-b+c", "((a@0 -@1 b@2) +@3 c@4)"}, {"a-b-c-d", "(((a@0 -@1 b@2) -@3 c@4) -@5 d@6)"},
		{"a-(b-c)", "(a@0 -@1 (b@3 -@4 c@5))"}, {"(a-b)-c", "((a@1 -@2 b@3) -@5 c@6)"},
		{"a+b*c", "(a@0 +@1 (b@2 *@3 c@4))"}, {"a*b+c", "((a@0 *@1 b@2) +@3 c@4)"}, {"(a+b)*c", "((a@1 +@2 b@3) *@5 c@6)"}, {"a*(b+c)", "(a@0 *@1 (b@3 +@4 c@5))"},
		{"a==b+c", "(a@0 ==@1 (b@3 +@4 c@5))"}, {"a+b==c", "((a@0 +@1 b@2) ==@3 c@5)"}, {"a==b==c", "((a@0 ==@1 b@3) ==@4 c@6)"}, {"a==(b==c)", "(a@0 ==@1 (b@4 ==@5 c@7))"},
		{"a<b>c", "((a@0 <@1 b@2) >@3 c@4)"}, {"a!=b<c", "((a@0 !=@1 b@3) <@4 c@5)"},
		{"a|b&c", "(a@0 |@1 (b@2 &@3 c@4))"}, {"a&b|c", "((a@0 &@1 b@2) |@3 c@4)"}, {"a&b*c&d", "(((a@0 &@1 b@2) *@3 c@4) &@5 d@6)"}, {"a|b+c|d", "(((a@0 |@1 b@2) +@3 c@4) |@5 d@6)"},
		{"a < b + c * d", "(a@0 <@2 (b@4 +@6 (c@8 *@10 d@12)))"}, {"a * b + c < d", "(((a@0 *@2 b@4) +@6 c@8) <@10 d@12)"},
		{"a + b * c - d == e & f | g", "(((a@0 +@2 (b@4 *@6 c@8)) -@10 d@12) ==@14 ((e@17 &@19 f@21) |@23 g@25))"},
		{"1+(2*(3-(4)))", "(1@0 +@1 (2@3 *@4 (3@6 -@7 4@9)))"},
		{"a # + b\n+ c", "(a@0 +@8 c@10)"},
	} {
		same(t, c.s, c.want)
	}
}

// 16.1: each op, and each two of them in a row: one that binds more stands in one that binds less; of those of one kind the left one stands in the right one.
func TestParseOps(t *testing.T) {
	for _, p := range ops() {
		same(t, "a "+p+" 1", "(a@0 "+p+"@2 1@"+strconv.Itoa(3+len(p))+")")
		same(t, "a"+p+"1", "(a@0 "+p+"@1 1@"+strconv.Itoa(1+len(p))+")")
		for _, q := range ops() {
			left, right := "((a "+p+" b) "+q+" c)", "(a "+p+" (b "+q+" c))"
			want := left
			if rank(q) > rank(p) {
				want = right
			}
			for s, want := range map[string]string{
				"a " + p + " b " + q + " c":   want,
				"(a " + p + " b) " + q + " c": left,
				"a " + p + " (b " + q + " c)": right,
			} {
				if got := nameless(bare(read(t, s))); got != want {
					t.Errorf("Parse(%q) = %s, want %s", s, got, want)
				}
				asTold(t, s)
			}
		}
	}
}

// nameless is a shape without the places of single things, which all are 0 in it.
func nameless(shape string) string {
	return strings.ReplaceAll(shape, "@0", "")
}

// 16.1: all rows of a few tokens: which are expressions, and of which shape; and, of the others, what is wrong, and where.
func TestParseAll(t *testing.T) {
	var all func(s string, n int, kinds []string)
	all = func(s string, n int, kinds []string) {
		asTold(t, s)
		if n == 0 {
			return
		}
		for _, k := range kinds {
			all(s+k, n-1, kinds)
		}
	}
	all("", 6, []string{"a ", "(", ") ", "+", "*", "=="})
	all("", 5, []string{"a", "1", "-", "&", " ", "<", "("})
	all("", 3, []string{"abcdefghijklm ", "0x ", "9223372036854775808 ", "(((( ", "a ", "+ ", "= ", ") "})
	all("", 3, []string{"a", "2", "==", "!=", "{", "}", "[", "]", "(", ")", ";", ",", "=", "+", "-", "*", "&", "|", "<", ">", " "})
}

// 16.1: drawn expressions, and what comes of them when a bit is taken out, or put in.
func TestParseDrawn(t *testing.T) {
	d := drawn(1)
	for range 3000 {
		s := d.written(6)
		asTold(t, s)
		i := d.below(len(s) + 1)
		asTold(t, s[:i])
		asTold(t, s[i:])
		asTold(t, s[:i]+d.one("(", ")", " ", "+", "=", "a", "0", "x", "@", "[", "#", "\n", "((((((((", "abcdefghijklm")+s[i:])
		asTold(t, strings.Repeat("(", d.below(11))+s+strings.Repeat(")", d.below(11)))
	}
}

// 16.1: numbers are those of 4.2, which errors they have, and where.
func TestParseNumbers(t *testing.T) {
	for s, n := range map[string]int{
		"0": 0, "00": 0, "08": 8, "0x0": 0, "0xfF": 255, "0x7fffffffffffffff": math.MaxInt, "0b0": 0, "0b00011": 3, "0b" + strings.Repeat("1", 63): math.MaxInt,
		"9223372036854775807": math.MaxInt, "00009223372036854775807": math.MaxInt, strings.Repeat("0", 100) + "1": 1,
	} {
		same(t, s, fmt.Sprint(n, "@0"))
		same(t, "a + "+s, fmt.Sprint("(a@0 +@2 ", n, "@4)"))
	}
	for s, e := range map[string]api.Errno{
		"0x": api.ErrForm, "0b": api.ErrForm, "0X1": api.ErrForm, "0B1": api.ErrForm, "1a": api.ErrForm, "1_000": api.ErrForm, "0_": api.ErrForm, "0b2": api.ErrForm, "0b12": api.ErrForm, "0xg": api.ErrForm, "0x0x1": api.ErrForm, "12u": api.ErrForm, "0o7": api.ErrForm, "1e3": api.ErrForm,
		"9223372036854775808": api.ErrRange, "0x8000000000000000": api.ErrRange, "18446744073709551615": api.ErrRange, "18446744073709551616": api.ErrRange, "0xffffffffffffffff": api.ErrRange, "0b1" + strings.Repeat("0", 63): api.ErrRange, strings.Repeat("9", 100): api.ErrRange,
		strings.Repeat("9", 100) + "a": api.ErrForm,
	} {
		wrong(t, s, e, 0)
		wrong(t, " "+s+" ", e, 1)
		wrong(t, "a * ("+s+" + 0x)", e, 5)
	}
}

// 16.1: ErrForm at the first token that may not stand there: at the text's end, if there is none.
func TestParseErrors(t *testing.T) {
	for _, c := range []struct {
		s  string
		at int
	}{
		{"", 0}, {" ", 1}, {"\n\t ", 3}, {"#", 1}, {"# a", 3}, {"# a\n", 4},
		{"a b", 2}, {"a 1", 2}, {"1 a", 2}, {"1 2", 2}, {"a (b)", 2}, {"a(", 1}, {"(a)(b)", 3}, {"(a) b", 4}, {"(a b)", 3}, {"(a) 1", 4}, {"a b c", 2},
		{"+", 0}, {"-1", 0}, {"- 1", 0}, {"-a", 0}, {"a +", 3}, {"a + ", 4}, {"a + # b", 7}, {"+ a", 0}, {"a + + b", 4}, {"a - -1", 4}, {"a == == b", 5}, {"a * & b", 4}, {"(+)", 1}, {"(a +)", 4}, {"(a + )", 5}, {"(* a)", 1},
		{"(", 1}, {"((", 2}, {"(a", 2}, {"((a)", 4}, {"(a ", 3}, {"(a+(b)", 6}, {")", 0}, {"a)", 1}, {"(a))", 3}, {"a + )", 4}, {"a ) + (", 2},
		{"()", 1}, {"( )", 2}, {"a + ()", 5}, {"(())", 2},
		{"(a]", 2}, {"[a)", 0}, {"a]", 1},
		{"a === b", 4}, {"a = b", 2}, {"a=b", 1}, {"a ==", 4}, {"== a", 0}, {"a !==b", 4}, {"a <= b", 3}, {"a >= b", 3}, {"a << b", 3}, {"a && b", 3}, {"a || b", 3}, {"a == = b", 5},
	} {
		wrong(t, c.s, api.ErrForm, c.at)
	}
	// Each op where a thing is due; each mark that is none of an expression's, and a word too many, wherever.
	for _, op := range ops() {
		wrong(t, op, api.ErrForm, 0)
		wrong(t, op+" a", api.ErrForm, 0)
		wrong(t, "a "+op, api.ErrForm, 2+len(op))
		wrong(t, "a "+op+"  ", api.ErrForm, 4+len(op))
		wrong(t, "a "+op+" )", api.ErrForm, 3+len(op))
		wrong(t, "(a "+op+")", api.ErrForm, 3+len(op))
	}
	for _, m := range []string{"{", "}", "[", "]", ";", ",", "="} {
		wrong(t, m, api.ErrForm, 0)
		wrong(t, m+" a", api.ErrForm, 0)
		wrong(t, "a "+m, api.ErrForm, 2)
		wrong(t, "a "+m+" b", api.ErrForm, 2)
		wrong(t, "a + "+m+" b", api.ErrForm, 4)
		wrong(t, "("+m+")", api.ErrForm, 1)
		wrong(t, "(a "+m+")", api.ErrForm, 3)
	}
}

// 16.1: Lex's errors, as they are, ahead of all others.
func TestParseLex(t *testing.T) {
	for s, at := range map[string]int{"@": 0, "a.b": 1, "a ! b": 2, ") @": 2, "a b !": 4, "abcdefghijklm \xff": 14, "0x \x00": 3, "(((((((((( .": 11, "a\r": 1} {
		wrong(t, s, api.ErrForm, at)
	}
	long := strings.Repeat("a+", api.MaxText/2-1) + "a "
	if x := read(t, long); x.At != api.MaxText-3 {
		t.Errorf("the last op of %d bytes stands at %d", len(long), x.At)
	}
	wrong(t, long+" ", api.ErrLimit, -1)
	wrong(t, ")"+long, api.ErrLimit, -1)
	wrong(t, strings.Repeat("@", api.MaxText+1), api.ErrLimit, -1)
	wrong(t, strings.Repeat(" ", api.MaxText), api.ErrForm, api.MaxText)
	wrong(t, strings.Repeat(" ", api.MaxText+1), api.ErrLimit, -1)
	wrong(t, strings.Repeat("a", api.MaxText), api.ErrLimit, 0)
	wrong(t, strings.Repeat("9", api.MaxText), api.ErrRange, 0)
	wrong(t, strings.Repeat("(", api.MaxText), api.ErrLimit, api.MaxDepth)
	wrong(t, strings.Repeat("a+", api.MaxText/2), api.ErrForm, api.MaxText)
	same(t, strings.Repeat("0", api.MaxText), "0@0")
}

// 16.1: ErrLimit: a name of more than MaxName bytes; numbers may be as long as they like.
func TestParseNames(t *testing.T) {
	name := strings.Repeat("n", api.MaxName)
	for _, s := range []string{name, name[1:] + "_", "_" + name[1:], "A23456789012"} {
		same(t, s, s+"@0")
		for _, more := range []string{"x", "0", "_", name} {
			wrong(t, s+more, api.ErrLimit, 0)
			wrong(t, "1 + "+s+more, api.ErrLimit, 4)
			wrong(t, "(a * ("+s+more+" b", api.ErrLimit, 6)
		}
	}
	same(t, "0000000000001", "1@0")
}

// 16.1: ErrLimit: a bracket in MaxDepth others. Those that are closed already don't matter.
func TestParseDepth(t *testing.T) {
	for n := range api.MaxDepth + 1 {
		open, close := strings.Repeat("(", n), strings.Repeat(")", n)
		same(t, open+"a"+close, fmt.Sprint("a@", n))
		same(t, open+"a"+close+"+"+open+"b"+close, fmt.Sprint("(a@", n, " +@", 2*n+1, " b@", 3*n+2, ")"))
		wrong(t, open+close, api.ErrForm, n)
	}
	full, shut := strings.Repeat("(", api.MaxDepth), strings.Repeat(")", api.MaxDepth)
	wrong(t, full+"(a)"+shut, api.ErrLimit, api.MaxDepth)
	wrong(t, full+"((a))"+shut, api.ErrLimit, api.MaxDepth)
	wrong(t, full+"(", api.ErrLimit, api.MaxDepth)
	wrong(t, full, api.ErrForm, api.MaxDepth)
	wrong(t, full+"a+(b)"+shut, api.ErrLimit, api.MaxDepth+2)
	same(t, full[1:]+"(a)+(b)"+shut[1:], "(a@8 +@10 b@12)")
	wrong(t, full[1:]+"(a)+((b))"+shut[1:], api.ErrLimit, api.MaxDepth+4)
	wrong(t, "a*("+full[1:]+"1+(b", api.ErrLimit, 12)
	if x := read(t, strings.Repeat("(a)+", 500)+"(a)"); x.At != 4*499+3 {
		t.Errorf("the last op stands at %d", x.At)
	}
}

// 16.1: of several tokens that are wrong the first one is told, whatever is wrong with it.
func TestParseFirst(t *testing.T) {
	deep := strings.Repeat("(", api.MaxDepth+1)
	for _, c := range []struct {
		s  string
		e  api.Errno
		at int
	}{
		{"abcdefghijklm + 0x", api.ErrLimit, 0},
		{"0x + abcdefghijklm", api.ErrForm, 0},
		{"9223372036854775808 abcdefghijklm )", api.ErrRange, 0},
		{"a b + abcdefghijklm", api.ErrForm, 2},
		{") abcdefghijklm", api.ErrForm, 0},
		{"a + ) + 9223372036854775808", api.ErrForm, 4},
		{deep + "abcdefghijklm", api.ErrLimit, api.MaxDepth},
		{deep[1:] + "abcdefghijklm + (", api.ErrLimit, api.MaxDepth},
		{deep[1:] + "0x + (", api.ErrForm, api.MaxDepth},
		{"abcdefghijklm" + deep, api.ErrLimit, 0},
		{") " + deep, api.ErrForm, 0},
		// Where an op is due, no name, number or bracket stands, however long, great or deep: it is of another form.
		{"a abcdefghijklm", api.ErrForm, 2},
		{"(a)abcdefghijklm", api.ErrForm, 3},
		{"a 9223372036854775808", api.ErrForm, 2},
		{"(a 9223372036854775808)", api.ErrForm, 3},
		{deep[1:] + "a (", api.ErrForm, api.MaxDepth + 2},
		{"(a abcdefghijklm)", api.ErrForm, 3},
	} {
		wrong(t, c.s, c.e, c.at)
	}
}

// 16.2: Text: one blank at both sides of ops, brackets just where they must be.
func TestText(t *testing.T) {
	for _, c := range []struct{ s, want string }{
		{"a", "a"}, {"  ((a))", "a"}, {"0", "0"}, {"0x1f", "31"}, {"0b11", "3"}, {"007", "7"}, {"0x7fffffffffffffff", "9223372036854775807"}, {"_Z9", "_Z9"},
		{"a+b", "a + b"}, {"(a)\n+ # x\n(b)", "a + b"}, {"((a+b))", "a + b"},
		{"a+b-c", "a + b - c"}, {"(a+b)-c", "a + b - c"}, {"a+(b-c)", "a + (b - c)"}, {"a+(b+c)", "a + (b + c)"}, {"a-(b-(c-d))", "a - (b - (c - d))"}, {"((a-b)-c)-d", "a - b - c - d"}, {"(a-b)-(c-d)", "a - b - (c - d)"},
		{"a*b*c", "a * b * c"}, {"a*(b*c)", "a * (b * c)"}, {"a&(b*c)", "a & (b * c)"}, {"(a&b)*c", "a & b * c"}, {"a|(b|c)", "a | (b | c)"}, {"a&(b&c)", "a & (b & c)"},
		{"a==b==c", "a == b == c"}, {"(a==b)!=c", "a == b != c"}, {"a==(b!=c)", "a == (b != c)"}, {"a<(b<c)", "a < (b < c)"}, {"(a<b)>c", "a < b > c"},
		{"a+(b*c)", "a + b * c"}, {"(a*b)+c", "a * b + c"}, {"(a+b)*c", "(a + b) * c"}, {"a*(b+c)", "a * (b + c)"}, {"(a|b)&(c|d)", "(a | b) & (c | d)"},
		{"(a+b)==(c*d)", "a + b == c * d"}, {"(a==b)+c", "(a == b) + c"}, {"a+(b==c)", "a + (b == c)"}, {"(a==b)*c", "(a == b) * c"}, {"a*(b<c)", "a * (b < c)"}, {"(a)*((b)>(c))", "a * (b > c)"},
		{"a<(b+(c*d))", "a < b + c * d"}, {"((a*b)+c)<d", "a * b + c < d"}, {"((a<b)+c)*d", "((a < b) + c) * d"}, {"a*(b+(c<d))", "a * (b + (c < d))"},
	} {
		if got := Text(read(t, c.s)); got != c.want {
			t.Errorf("Text of %q = %q, want %q", c.s, got, c.want)
		}
	}
	for _, p := range ops() {
		for _, q := range ops() {
			left, right := "(a "+p+" b) "+q+" c", "a "+p+" (b "+q+" c)"
			if got := Text(read(t, right)); rank(q) > rank(p) == (got == right) {
				t.Errorf("Text of %q = %q", right, got)
			}
			if got := Text(read(t, left)); rank(p) < rank(q) != (got == left) {
				t.Errorf("Text of %q = %q", left, got)
			}
		}
	}
	if got := Text(nil); got != "" {
		t.Errorf("Text of no expression is %q", got)
	}
}

// 16.2: what is written is read: Parse of a Text is the same expression, but for its places; and no two brackets could be left out.
func TestTextBack(t *testing.T) {
	d := drawn(2)
	for range 3000 {
		s := d.written(5)
		x := read(t, s)
		text := Text(x)
		back, err := Parse(text)
		if err != nil || bare(back) != bare(x) || Text(back) != text {
			t.Fatalf("Parse(%q), the Text of %q, = %s, %v; want %s", text, s, bare(back), err, bare(x))
		}
		if l, _ := lex.Lex(text); strings.ReplaceAll(strings.ReplaceAll(joint(l), "( ", "("), " )", ")") != text {
			t.Fatalf("in %q other blanks stand than one at both sides of each op", text)
		}
		for i := range len(text) {
			if text[i] != '(' {
				continue
			}
			less := text[:i] + text[i+1:]
			to := closing(text, i) - 1
			if y, err := Parse(less[:to] + less[to+1:]); err == nil && bare(y) == bare(x) {
				t.Fatalf("in %q, the Text of %q, the brackets from %d on need not be there", text, s, i)
			}
		}
	}
}

// joint is tokens with a blank between any two of them.
func joint(l []api.Token) string {
	var b []string
	for _, t := range l {
		b = append(b, t.Text)
	}
	return strings.Join(b, " ")
}

// closing is where the bracket is that closes the one at a place.
func closing(s string, at int) int {
	deep := 0
	for i := at; ; i++ {
		switch s[i] {
		case '(':
			deep++
		case ')':
			deep--
			if deep == 0 {
				return i
			}
		}
	}
}

// evalIs holds what an expression comes to against a number.
func evalIs(t *testing.T, s string, names map[string]int, want int) {
	t.Helper()
	if got, err := Eval(read(t, s), names); got != want || err != nil {
		t.Errorf("Eval(%q, %v) = %d, %v; want %d", s, names, got, err, want)
	}
}

// 16.2: Eval: what each op makes of numbers, and which of several is done first.
func TestEval(t *testing.T) {
	for s, want := range map[string]int{
		"0": 0, "7": 7, "0x1f": 31, "0b101": 5, "(9)": 9,
		"2+3": 5, "2-3": -1, "2*3": 6, "6&3": 2, "6|3": 7, "2==2": 1, "2==3": 0, "2!=2": 0, "2!=3": 1, "2<3": 1, "3<2": 0, "2<2": 0, "2>3": 0, "3>2": 1, "2>2": 0,
		"10-3-2": 5, "10-(3-2)": 9, "2+3*4": 14, "(2+3)*4": 20, "2*3+4": 10, "1|2&4": 1, "(1|2)&4": 0, "1|6&3": 3, "6&3|8": 10, "12&10*3": 24, "3*12&10": 0,
		"1+1==2": 1, "1+(1==2)": 1, "3>2>1": 0, "3>2==1": 1, "1<2<2": 1, "5==5==5": 0, "5==(5==5)": 0, "2!=2!=1": 1, "0-1<0": 1, "0-1>0": 0, "0>0-1": 1,
		"0-1&255": -1, "(0-1)&255": 255, "0-1|1": -1, "0-8|3": -5,
	} {
		evalIs(t, s, nil, want)
		evalIs(t, s, map[string]int{"a": 1}, want)
	}
	names := map[string]int{"a": 3, "b": -2, "abcdefghijkl": 5, "u8": 1, "_": 0}
	for s, want := range map[string]int{
		"a": 3, "b": -2, "_": 0, "abcdefghijkl": 5, "a+b": 1, "a-b": 5, "a*b": -6, "a&b": 2, "a|b": -1, "a<b": 0, "a>b": 1, "a==b": 0, "a!=b": 1, "b<0": 1, "b>0": 0, "0<b": 0, "b<_": 1, "b<b-1": 0, "b-1<b": 1, "b==0-2": 1, "a*a-b*b": 5, "u8+abcdefghijkl*a": 16, "b*(a+u8)": -8,
	} {
		evalIs(t, s, names, want)
	}
	evalIs(t, "a", map[string]int{"a": 0}, 0)
}

// bigTold is what an op makes of two numbers, of any size; then cut down to 64 bits.
func bigTold(op string, a, b int) int {
	x, y, n := big.NewInt(int64(a)), big.NewInt(int64(b)), new(big.Int)
	so := false
	switch op {
	case "+":
		n.Add(x, y)
	case "-":
		n.Sub(x, y)
	case "*":
		n.Mul(x, y)
	case "&":
		n.And(x, y)
	case "|":
		n.Or(x, y)
	case "==":
		so = x.Cmp(y) == 0
	case "!=":
		so = x.Cmp(y) != 0
	case "<":
		so = x.Cmp(y) < 0
	case ">":
		so = x.Cmp(y) > 0
	}
	if so {
		n.SetInt64(1)
	}
	n.And(n, new(big.Int).SetUint64(math.MaxUint64))
	return int(n.Uint64())
}

// 16.2: numbers of 64 bits, wrapping round; == != < > of numbers with a sign are 1 or 0.
func TestEvalWide(t *testing.T) {
	edges := []int{math.MinInt, math.MinInt + 1, math.MinInt32, -256, -2, -1, 0, 1, 2, 3, 255, math.MaxInt32, math.MaxUint32, 1 << 62, math.MaxInt - 1, math.MaxInt}
	d := drawn(3)
	for range 40 {
		edges = append(edges, d.below(1<<31)<<33^d.below(1<<31)<<10^d.below(1<<31))
	}
	for _, op := range ops() {
		x := read(t, "a "+op+" b")
		for _, a := range edges {
			for _, b := range edges {
				want := bigTold(op, a, b)
				if got, err := Eval(x, map[string]int{"a": a, "b": b}); got != want || err != nil {
					t.Errorf("%d %s %d = %d, %v; want %d", a, op, b, got, err, want)
				}
			}
		}
	}
	evalIs(t, "9223372036854775807+1", nil, math.MinInt)
	evalIs(t, "0-9223372036854775807-1", nil, math.MinInt)
	evalIs(t, "0-9223372036854775807-2", nil, math.MaxInt)
	evalIs(t, "9223372036854775807*2", nil, -2)
	evalIs(t, "9223372036854775807*9223372036854775807", nil, 1)
	evalIs(t, "9223372036854775807+1<0", nil, 1)
	evalIs(t, "0x100000000*0x100000000", nil, 0)
}

// missing holds the place of the name that is missing against what is wanted.
func missing(t *testing.T, s string, names map[string]int, where int) {
	t.Helper()
	n, err := Eval(read(t, s), names)
	if e, at := place(err); n != 0 || e != api.ErrName || at != where {
		t.Errorf("Eval(%q, %v) = %d, error %d at %d; want ErrName at %d", s, names, n, e, at, where)
	}
}

// 16.2: ErrName at the first name, from the left, that is missing, wherever it stands.
func TestEvalMissing(t *testing.T) {
	some := map[string]int{"a": 1, "b": 2, "A": 3, "": 4}
	for s, at := range map[string]int{
		"x": 0, "  x": 2, "((x))": 2, "x + a": 0, "a + x": 4, "x + y": 0, "y + x": 0, "a + x * y": 4, "x * y + a": 0, "a * b + x": 8, "(a + (b - (c < x)))": 11, "(a + x) == (y + b)": 5, "a + b * c - d": 8, "1 - (2 - x) - y": 9, "aa": 0, "B": 0, "a_": 0, "u8": 0, "0 * x": 4, "0 & x": 4, "1 == 1 | x": 9, "x - x": 0, "a < b + x": 8,
	} {
		missing(t, s, some, at)
	}
	for _, none := range []map[string]int{nil, {}} {
		missing(t, "a", none, 0)
		missing(t, "1 + (a * b)", none, 5)
		evalIs(t, "1 + 2", none, 3)
	}
	for _, op := range ops() {
		missing(t, "x "+op+" a", some, 0)
		missing(t, "a "+op+" x", some, 3+len(op))
		missing(t, "x "+op+" y", some, 0)
	}
	// With whatever places.
	for _, at := range []int{math.MinInt, -1, 0, math.MaxInt} {
		x := &api.Expr{Code: api.Bin, At: 5, Op: "+", Left: &api.Expr{Code: api.Name, At: at, Name: "x"}, Right: &api.Expr{Code: api.Name, At: 1, Name: "y"}}
		if n, err := Eval(x, some); n != 0 || api.Tell(err) != api.ErrName {
			t.Errorf("Eval = %d, %v", n, err)
		} else if _, where := place(err); where != at {
			t.Errorf("the name at %d is told to be at %d", at, where)
		}
	}
}

// 16.2: Eval, held against numbers of any size, of drawn expressions, and names that are missing, told by the tokens.
func TestEvalDrawn(t *testing.T) {
	all := map[string]int{"a": -3, "b": math.MaxInt, "c": math.MinInt, "_x": 12, "abcdefghijkl": 255, "u8": 1}
	d := drawn(4)
	for range 3000 {
		s := d.written(5)
		x := read(t, s)
		var valueTold func(x *api.Expr) int
		valueTold = func(x *api.Expr) int {
			switch x.Code {
			case api.Num:
				return x.N
			case api.Name:
				return all[x.Name]
			}
			return bigTold(x.Op, valueTold(x.Left), valueTold(x.Right))
		}
		evalIs(t, s, all, valueTold(x))
		some := maps.Clone(all)
		delete(some, d.one("a", "b", "c"))
		delete(some, d.one("_x", "abcdefghijkl", "u8"))
		l, _ := lex.Lex(s)
		i := slices.IndexFunc(l, func(t api.Token) bool {
			_, ok := some[t.Text]
			return lex.Name(t.Text) && !ok
		})
		if i < 0 {
			evalIs(t, s, some, valueTold(x))
		} else {
			missing(t, s, some, l[i].At)
		}
	}
}

// P1: Eval ends, and doesn't panic, whatever it is given; what no sentence names is 0.
func TestEvalOdd(t *testing.T) {
	one := &api.Expr{Code: api.Num, N: 1}
	for _, x := range []*api.Expr{
		nil, {}, {Code: -1, N: 5}, {Code: 4, N: 5, Left: one, Right: one}, {Code: math.MaxInt}, {Code: math.MinInt},
		{Code: api.Bin}, {Code: api.Bin, Op: "+"}, {Code: api.Bin, Op: "/", Left: one, Right: one}, {Code: api.Bin, Op: "", Left: one, Right: one}, {Code: api.Bin, Op: "=", Left: one, Right: one},
	} {
		if n, err := Eval(x, nil); n != 0 || err != nil {
			t.Errorf("Eval(%+v) = %d, %v", x, n, err)
		}
	}
	// As deep as the document's limits go, at either side.
	left, right := one, one
	for range 1<<16 - 1 {
		left = &api.Expr{Code: api.Bin, Op: "+", Left: left, Right: one}
		right = &api.Expr{Code: api.Bin, Op: "+", Left: one, Right: right}
	}
	for _, x := range []*api.Expr{left, right} {
		if n, err := Eval(x, nil); n != 1<<16 || err != nil {
			t.Errorf("Eval of %d ones = %d, %v", 1<<16, n, err)
		}
	}
}

// P1: as many things and ops as a text can have, read, written and reckoned.
func TestLong(t *testing.T) {
	for _, op := range []string{"+", "-", "*", "&", "|", "<", ">"} {
		n := api.MaxText / 2
		s := strings.TrimSuffix(strings.Repeat("a"+op, n), op)
		x := read(t, s)
		if got := Text(x); got != strings.ReplaceAll(s, op, " "+op+" ") {
			t.Errorf("Text of %d times a%s has %d bytes", n, op, len(got))
		}
		want := 2
		for range n - 1 {
			want = bigTold(op, want, 2)
		}
		if got, err := Eval(x, map[string]int{"a": 2}); got != want || err != nil {
			t.Errorf("%d times a, by %s, = %d, %v; want %d", n, op, got, err, want)
		}
	}
}

// P4: the same is told each time; what was told is the caller's, and nothing that is handed in is written into.
func TestAgain(t *testing.T) {
	s := "a + b * (c - 1)"
	x := read(t, s)
	want := shape(x)
	x.Left.Name, x.Right.Op, x.Right.Right.Left = "z", "/", nil
	wrong(t, "a +", api.ErrForm, 3)
	same(t, s, want)

	x = read(t, s)
	names := map[string]int{"a": 1, "b": 2, "c": 3}
	for range 2 {
		if n, err := Eval(x, names); n != 5 || err != nil {
			t.Errorf("Eval = %d, %v", n, err)
		}
		if _, err := Eval(x, map[string]int{"a": 1}); api.Tell(err) != api.ErrName {
			t.Errorf("Eval without b: %v", err)
		}
		if text := Text(x); text != s {
			t.Errorf("Text = %q", text)
		}
	}
	if shape(x) != want || !maps.Equal(names, map[string]int{"a": 1, "b": 2, "c": 3}) {
		t.Errorf("what was handed in is %s, %v then", shape(x), names)
	}
}
