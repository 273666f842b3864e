package tmpl

import (
	"errors"
	"fmt"
	"math"
	"reflect"
	"slices"
	"strconv"
	"strings"
	"testing"

	"escritoire/api"
	"escritoire/expr"
	"escritoire/lex"
)

// drawn is numbers that look drawn, the same each time.
type drawn uint64

func (d *drawn) below(most int) int {
	*d = *d*6364136223846793005 + 1442695040888963407
	return int(uint64(*d>>33) % uint64(most))
}

// one is one of several texts.
func (d *drawn) one(l ...string) string {
	return l[d.below(len(l))]
}

// name is a name, now and then one of just MaxName bytes.
func (d *drawn) name() string {
	return d.one("a", "b", "c", "x9", "_", "Top", "top", "u64le", "u16", "Size", "abcdefghijkl")
}

// written is the tokens of an expression.
func (d *drawn) written(deep int) []string {
	if deep == 0 || d.below(3) == 0 {
		return []string{d.one("0", "1", "0x1f", "0b11", "007", "9223372036854775807", "a", "b", "u8", "struct", "size", "abcdefghijkl")}
	}
	if d.below(3) == 0 {
		return slices.Concat([]string{"("}, d.written(deep-1), []string{")"})
	}
	return slices.Concat(d.written(deep-1), []string{d.one("==", "!=", "<", ">", "+", "-", "|", "*", "&")}, d.written(deep-1))
}

// item is the tokens of an item.
func (d *drawn) item(deep int) []string {
	count := slices.Concat([]string{"["}, d.written(2), []string{"]", ";"})
	switch d.below(7) {
	case 0:
		if deep > 0 {
			return slices.Concat([]string{"when"}, d.written(2), d.block(deep-1))
		}
	case 1:
		return append([]string{"bytes", d.name()}, count...)
	case 2:
		return append([]string{d.name(), d.name()}, count...)
	case 3:
		return append([]string{d.one(numbers...), d.name()}, count...)
	case 4:
		return []string{d.one(numbers...), d.name(), "=", d.one("size", "count", "check"), d.name(), ";"}
	case 5:
		return []string{d.one(numbers...), d.name(), "=", "check", d.name(), d.name(), ";"}
	}
	return []string{d.one(append(numbers, "a", "Top")...), d.name(), ";"}
}

// block is the tokens of a block.
func (d *drawn) block(deep int) []string {
	l := []string{"{"}
	for range d.below(4) {
		l = append(l, d.item(deep)...)
	}
	return append(l, "}")
}

// template is the tokens of a template.
func (d *drawn) template() []string {
	var l []string
	for range 1 + d.below(3) {
		l = append(append(l, "struct", d.name()), d.block(3)...)
	}
	return l
}

// spread is tokens as a text, with something between any two of them.
func (d *drawn) spread(l []string) string {
	s := d.one("", " ", "# all\n")
	for _, t := range l {
		s += t + d.one(" ", " ", "  ", "\n", "\t", " # struct {\n", "#\n")
	}
	return s + d.one("", "", "#", "# }")
}

// place is an error's Errno, and the place that it has; -1, if it has none.
func place(err error) (api.Errno, int) {
	var a *api.At
	if errors.As(err, &a) {
		return api.Tell(err), a.Place
	}
	return api.Tell(err), -1
}

// tidy is structs whose empty lists all are nil.
func tidy(l []api.Type) []api.Type {
	var out []api.Type
	for _, t := range l {
		t.Items = tidyItems(t.Items)
		out = append(out, t)
	}
	return out
}

func tidyItems(l []api.Item) []api.Item {
	var out []api.Item
	for _, x := range l {
		x.Items = tidyItems(x.Items)
		out = append(out, x)
	}
	return out
}

// shown is structs with all that is in them.
func shown(l []api.Type) string {
	s := ""
	for _, t := range l {
		s += fmt.Sprintf("%s@%d%s ", t.Name, t.At, shownItems(t.Items))
	}
	return s
}

func shownItems(l []api.Item) string {
	s := "{"
	for _, x := range l {
		count := "none"
		if x.Count != nil {
			count = fmt.Sprintf("%s@%d", expr.Text(x.Count), x.Count.At)
		}
		more := shownItems(x.Items)
		x.Count, x.Items = nil, nil
		s += fmt.Sprintf("%+v %s %s;", x, count, more)
	}
	return s + "}"
}

// same holds what Parse tells of a text against structs.
func same(t *testing.T, s string, want []api.Type) {
	t.Helper()
	l, err := Parse(s)
	if err != nil || !reflect.DeepEqual(tidy(l), tidy(want)) {
		t.Errorf("Parse(%.300q) = %.600s, %v; want %.600s", s, shown(l), err, shown(want))
	}
}

// wrong holds Parse's error against what is wanted.
func wrong(t *testing.T, s string, want api.Errno, where int) {
	t.Helper()
	l, err := Parse(s)
	if e, at := place(err); e != want || at != where || l != nil {
		t.Errorf("Parse(%.400q) = %.300s, error %d at %d; want %d at %d", s, shown(l), e, at, want, where)
	}
}

// asTold holds Parse of a text, and Print of that, against what is told another way.
func asTold(t *testing.T, s string) {
	t.Helper()
	if e, at := errorTold(s); e != api.OK {
		wrong(t, s, e, at)
		return
	}
	same(t, s, typesTold(s))
	l, _ := Parse(s)
	if got, want := Print(l), printTold(s); got != want {
		t.Errorf("Print of %.400q = %q, want %q", s, got, want)
	}
}

// read is a text's structs, of which there must be some.
func read(t *testing.T, s string) []api.Type {
	t.Helper()
	l, err := Parse(s)
	if err != nil {
		t.Fatalf("Parse(%.300q): %v", s, err)
	}
	return l
}

// head is what stands ahead of the first item of a struct; it has 10 bytes.
const head = "struct a {"

// only holds the only item of a struct, whose text is this, against what is wanted: it begins behind head.
func only(t *testing.T, s string, want api.Item) {
	t.Helper()
	want.At = len(head)
	same(t, head+s+"}", []api.Type{{Name: "a", At: 7, Items: []api.Item{want}}})
}

// amiss holds the error of a struct that goes on by this behind head: its place is one of this text.
func amiss(t *testing.T, s string, want api.Errno, where int) {
	t.Helper()
	wrong(t, head+s, want, len(head)+where)
}

// num and name are expressions of one token.
func numAt(n, at int) *api.Expr {
	return &api.Expr{Code: api.Num, At: at, N: n}
}

func nameAt(name string, at int) *api.Expr {
	return &api.Expr{Code: api.Name, At: at, Name: name}
}

// 17.1, 17.2: each of the NUMs: how many bytes, in which order, with a sign or without one; alone, with `[`, and with each rule.
func TestParseNums(t *testing.T) {
	for word, x := range map[string]api.Item{
		"u8": {Width: 1, Order: api.Little}, "i8": {Width: 1, Order: api.Little, Signed: true},
		"u16le": {Width: 2, Order: api.Little}, "u16be": {Width: 2, Order: api.Big}, "i16le": {Width: 2, Order: api.Little, Signed: true}, "i16be": {Width: 2, Order: api.Big, Signed: true},
		"u32le": {Width: 4, Order: api.Little}, "u32be": {Width: 4, Order: api.Big}, "i32le": {Width: 4, Order: api.Little, Signed: true}, "i32be": {Width: 4, Order: api.Big, Signed: true},
		"i64le": {Width: 8, Order: api.Little, Signed: true}, "i64be": {Width: 8, Order: api.Big, Signed: true},
	} {
		x.Kind, x.Name = api.Scalar, "n"
		only(t, word+" n;", x)
		many := x
		many.Many, many.Count = true, numAt(3, len(head+word+" n["))
		only(t, word+" n[3];", many)
		for rule, sort := range map[string]int{"size": api.Size, "count": api.Count, "check": api.Check} {
			hangs := x
			hangs.Rule, hangs.First = sort, "b"
			if sort == api.Check {
				hangs.Last = "b"
			}
			only(t, word+" n = "+rule+" b;", hangs)
		}
	}
	// Words that are nearly theirs are names.
	for _, word := range []string{"u64le", "u64be", "u8le", "i8be", "u16", "i32", "U8", "u8_", "u", "i64", "u128le"} {
		only(t, word+" n;", api.Item{Kind: api.Struct, Name: "n", Type: word})
		amiss(t, word+" n = size b;", api.ErrForm, len(word)+3)
	}
}

// 17.1, 17.2: each kind of item, and every field of it.
func TestParseItems(t *testing.T) {
	only(t, "u8 n;", api.Item{Kind: api.Scalar, Name: "n", Width: 1})
	only(t, "bytes b[n];", api.Item{Kind: api.Bytes, Name: "b", Count: nameAt("n", 18)})
	only(t, "pair p;", api.Item{Kind: api.Struct, Name: "p", Type: "pair"})
	only(t, "pair p [ n ] ;", api.Item{Kind: api.Struct, Name: "p", Type: "pair", Many: true, Count: nameAt("n", 19)})
	only(t, "a a;", api.Item{Kind: api.Struct, Name: "a", Type: "a"})
	only(t, "when n { }", api.Item{Kind: api.When, Count: nameAt("n", 15)})
	only(t, "when n{u8 m;}", api.Item{Kind: api.When, Count: nameAt("n", 15), Items: []api.Item{{Kind: api.Scalar, At: 17, Name: "m", Width: 1}}})
	only(t, "when 1 { when 0x10 { i8 m; } bytes b[2]; }", api.Item{Kind: api.When, Count: numAt(1, 15), Items: []api.Item{
		{Kind: api.When, At: 19, Count: numAt(16, 24), Items: []api.Item{{Kind: api.Scalar, At: 31, Name: "m", Width: 1, Signed: true}}},
		{Kind: api.Bytes, At: 39, Name: "b", Count: numAt(2, 47)},
	}})
	// An expression has its places in the text; it isn't reckoned.
	only(t, "u8 n[(m - 1) * 2];", api.Item{Kind: api.Scalar, Name: "n", Width: 1, Many: true, Count: &api.Expr{Code: api.Bin, At: 23, Op: "*",
		Left:  &api.Expr{Code: api.Bin, At: 18, Op: "-", Left: nameAt("m", 16), Right: numAt(1, 20)},
		Right: numAt(2, 25),
	}})
	only(t, "when a == b # c\n | 1 {}", api.Item{Kind: api.When, Count: &api.Expr{Code: api.Bin, At: 17, Op: "==", Left: nameAt("a", 15),
		Right: &api.Expr{Code: api.Bin, At: 27, Op: "|", Left: nameAt("b", 20), Right: numAt(1, 29)},
	}})
	// The greatest number that there is, in either place.
	only(t, "bytes b[9223372036854775807];", api.Item{Kind: api.Bytes, Name: "b", Count: numAt(math.MaxInt, 18)})
	only(t, "when 0x7fffffffffffffff {}", api.Item{Kind: api.When, Count: numAt(math.MaxInt, 15)})
	only(t, "u8 b[0];", api.Item{Kind: api.Scalar, Name: "b", Width: 1, Many: true, Count: numAt(0, 15)})
}

// 17.1, 17.2: each rule; a Check of one name, of two, and of one twice.
func TestParseRules(t *testing.T) {
	n := api.Item{Kind: api.Scalar, Name: "n", Width: 4, Order: api.Big}
	for s, x := range map[string]api.Item{
		"size b":    {Rule: api.Size, First: "b"},
		"count b":   {Rule: api.Count, First: "b"},
		"check b":   {Rule: api.Check, First: "b", Last: "b"},
		"check b c": {Rule: api.Check, First: "b", Last: "c"},
		"check b b": {Rule: api.Check, First: "b", Last: "b"},
		"size n":    {Rule: api.Size, First: "n"},
	} {
		n.Rule, n.First, n.Last = x.Rule, x.First, x.Last
		only(t, "u32be n = "+s+";", n)
		only(t, "u32be n="+strings.ReplaceAll(s, " ", "\n\t# x\n")+" ;", n)
	}
	// Where a rule begins, if its word is none.
	for _, word := range []string{"none", "sizes", "Size", "3", ";", "b", "=", "struct", "bytes", "when", "u8", "{", "}", "[", "(", "0x", "abcdefghijklm"} {
		amiss(t, "u8 n = "+word+" b; }", api.ErrForm, 7)
		amiss(t, "u8 n =  "+word, api.ErrForm, 8)
	}
	// A rule of what is no number, or of many.
	for s, at := range map[string]int{
		"bytes b = size c;": 8, "bytes b[1] = size c;": 11, "pair p = size c;": 7, "pair p[1] = count c;": 10, "u8 n[2] = size b;": 8, "u32le n[2] = check b c;": 11, "when n = size b {}": 7, "= size b;": 0, "u8 = size b;": 3,
	} {
		amiss(t, s+"}", api.ErrForm, at)
	}
	// A name too many, or too few.
	for s, at := range map[string]int{
		"u8 n = size b c;": 14, "u8 n = count b b;": 15, "u32le n = check b c d;": 20, "u8 n = size;": 11, "u8 n = count ;": 13, "u32le n = check;": 15, "u8 n = size size;": 12, "u32le n = check b size;": 18, "u32le n = check b 1;": 18, "u32le n = check b, c;": 17, "u8 n = size [b];": 12, "u8 n = size 1;": 12, "u8 n = size b[1];": 13, "u8 n == size b;": 5, "u8 n size b;": 5,
	} {
		amiss(t, s+"}", api.ErrForm, at)
	}
}

// 17.1: of no bytes, of blanks and remarks alone; blocks without an item; several structs.
func TestParseTypes(t *testing.T) {
	for _, s := range []string{"", " ", "\n\t \n", "#", "# struct a {", "# x\n", "  # x\n\t# y"} {
		same(t, s, nil)
	}
	same(t, "struct a{}", []api.Type{{Name: "a", At: 7}})
	same(t, "\nstruct\ta\n{ # }\n}\n", []api.Type{{Name: "a", At: 8}})
	same(t, "struct a {}struct b{u8 n;}struct _ { a x; b y; }", []api.Type{
		{Name: "a", At: 7},
		{Name: "b", At: 18, Items: []api.Item{{Kind: api.Scalar, At: 20, Name: "n", Width: 1}}},
		{Name: "_", At: 33, Items: []api.Item{{Kind: api.Struct, At: 37, Name: "x", Type: "a"}, {Kind: api.Struct, At: 42, Name: "y", Type: "b"}}},
	})
	// Whether they fit together is another question.
	same(t, "struct a {} struct a { none x; bytes x[x]; }", []api.Type{{Name: "a", At: 7}, {Name: "a", At: 19, Items: []api.Item{
		{Kind: api.Struct, At: 23, Name: "x", Type: "none"}, {Kind: api.Bytes, At: 31, Name: "x", Count: nameAt("x", 39)},
	}}})
	for s, at := range map[string]int{
		"struct": 6, "struct ": 7, "struct a": 8, "struct a {": 10, "struct a { ": 11, "struct a { # }": 14, "a": 0, "{": 0, "}": 0, "u8 n;": 0, "struct a {}}": 11, "struct a {};": 11, "struct a {} a": 12, "struct a {} {}": 12, "struct a b {}": 9, "struct a [": 9, "struct struct a {}": 7, "struct 1 {}": 7, "struct {}": 7, "struct a }": 9, "struct a { struct b {} }": 11, "struct a { {} }": 11, "struct a { ; }": 11, "Struct a {}": 0, "structs a {}": 0, "struct a {} struct": 18, "struct a(b) {}": 8, "12": 0,
	} {
		wrong(t, s, api.ErrForm, at)
	}
}

// 17.1: Lex's errors, as they are, ahead of all others; as many bytes as there may be.
func TestParseLex(t *testing.T) {
	for s, at := range map[string]int{"@": 0, "struct a { u8 n! }": 15, "} @": 2, "struct abcdefghijklm \xff": 21, "struct a { when ( . }": 18, "struct a {}\r": 11, "struct a { u8 n /* x */; }": 16, "struct a { u8 n[-1 ! ]; }": 19} {
		wrong(t, s, api.ErrForm, at)
	}
	s := "struct a { u8 n; }"
	long := s + strings.Repeat(" ", api.MaxText-len(s))
	want := []api.Type{{Name: "a", At: 7, Items: []api.Item{{Kind: api.Scalar, At: 11, Name: "n", Width: 1}}}}
	same(t, long, want)
	same(t, s+"#"+strings.Repeat("\xff", api.MaxText-len(s)-1), want)
	wrong(t, long+" ", api.ErrLimit, -1)
	wrong(t, "}"+long, api.ErrLimit, -1)
	wrong(t, strings.Repeat("@", api.MaxText+1), api.ErrLimit, -1)
	wrong(t, long[:api.MaxText-1]+"x", api.ErrForm, api.MaxText-1)
	wrong(t, "struct a {"+strings.Repeat(" ", api.MaxText-10), api.ErrForm, api.MaxText)
	same(t, strings.Repeat(" ", api.MaxText), nil)
	wrong(t, strings.Repeat(" ", api.MaxText+1), api.ErrLimit, -1)
	same(t, strings.Repeat(" ", api.MaxText-len(s))+s, []api.Type{{Name: "a", At: api.MaxText - 11, Items: []api.Item{{Kind: api.Scalar, At: api.MaxText - 7, Name: "n", Width: 1}}}})
	// An expression that fills the text, at its end, too.
	wide := head + "bytes b[" + strings.Repeat("n+", (api.MaxText-len(head)-12)/2) + "n];}"
	if l := read(t, wide); len(wide) < api.MaxText-1 || l[0].Items[0].Count.At != len(wide)-5 {
		t.Errorf("of %d bytes the last op stands at %d", len(wide), l[0].Items[0].Count.At)
	}
}

// spots is texts with one place, @, for a name.
var spots = []string{
	"struct @ {}", "struct a { @ n; }", "struct a { u8 @; }", "struct a { u8 @[1]; }", "struct a { u8 @ = size b; }", "struct a { bytes @[1]; }", "struct a { b @; }", "struct a { b @[1]; }", "struct a { @ b[1]; }",
	"struct a { u8 n = size @; }", "struct a { u8 n = count @; }", "struct a { u32le n = check @; }", "struct a { u32le n = check @ b; }", "struct a { u32le n = check b @; }",
	"struct a { when 1 { u8 @; } }", "struct a { when 1 { @ n; } }", "struct a {} struct @ {}",
}

// asked is texts with one place, @, for a name in an expression.
var asked = []string{
	"struct a { when @ {} }", "struct a { bytes b[@]; }", "struct a { u8 n[@]; }", "struct a { b n[@]; }", "struct a { when 1 + (@ * 2) {} }", "struct a { bytes b[2 - @]; }", "struct a { when 1 { when @ {} } }",
}

// 17.1: a NAME is a Name, none of the words; in an expression they are names.
func TestParseNames(t *testing.T) {
	words := append(slices.Clone(kept), numbers...)
	long := strings.Repeat("n", api.MaxName)
	for _, s := range spots {
		at := strings.Index(s, "@")
		for _, name := range []string{"n", "_", "N9", "_1", "structs", "u64le", "Bytes", "wHen", long, "_" + long[1:], long[:11] + "9"} {
			asTold(t, strings.Replace(s, "@", name, 1))
			read(t, strings.Replace(s, "@", name, 1))
		}
		for _, word := range words {
			if s == "struct a { @ n; }" || s == "struct a { @ b[1]; }" || s == "struct a { when 1 { @ n; } }" {
				if slices.Contains(numbers, word) || word == "bytes" || word == "when" {
					asTold(t, strings.Replace(s, "@", word, 1))
					continue
				}
			}
			wrong(t, strings.Replace(s, "@", word, 1), api.ErrForm, at)
		}
		for _, text := range []string{"1", "0x1", "1n", "==", "(", ")", "{", "[", "=", ",", "0000000000001"} {
			wrong(t, strings.Replace(s, "@", text, 1), api.ErrForm, at)
		}
		for _, more := range []string{"n", "9", "_", long} {
			wrong(t, strings.Replace(s, "@", long+more, 1), api.ErrLimit, at)
			wrong(t, strings.Replace(s, "@", long+more+" }", 1), api.ErrLimit, at)
			wrong(t, s[:at]+long+more, api.ErrLimit, at)
		}
	}
	for _, s := range asked {
		at := strings.Index(s, "@")
		for _, name := range append(words, long, "_", "top") {
			asTold(t, strings.Replace(s, "@", name, 1))
			read(t, strings.Replace(s, "@", name, 1))
		}
		wrong(t, strings.Replace(s, "@", long+"n", 1), api.ErrLimit, at)
		wrong(t, s[:at]+long+"n", api.ErrLimit, at)
	}
	only(t, "when struct{}", api.Item{Kind: api.When, Count: nameAt("struct", 15)})
	only(t, "bytes b[u8];", api.Item{Kind: api.Bytes, Name: "b", Count: nameAt("u8", 18)})
}

// 17.1: a name that is too long where none may stand is of another form.
func TestParseNamesElsewhere(t *testing.T) {
	long := "abcdefghijklm"
	for s, at := range map[string]int{
		"struct a @ {}": 9, "struct a {} @": 12, "struct a { u8 n @; }": 16, "struct a { u8 n = @ b; }": 18, "struct a { u8 n = size b @; }": 25, "struct a { u32le n = check b c @; }": 31, "struct a { bytes b @; }": 19, "struct a { when 1 @ {} }": 18, "struct a { u8 n[1 @]; }": 18, "struct a { u8 n[1] @; }": 19, "@": 0,
	} {
		wrong(t, strings.Replace(s, "@", long, 1), api.ErrForm, at)
	}
}

// 17.1: an expression's errors, in a when and in brackets.
func TestParseExprs(t *testing.T) {
	for _, c := range []struct {
		s   string
		err api.Errno
		at  int
	}{
		{"", api.ErrForm, 0}, {"+", api.ErrForm, 0}, {"a b", api.ErrForm, 2}, {"a +", api.ErrForm, 3}, {"(a", api.ErrForm, 2}, {"a)", api.ErrForm, 1}, {"()", api.ErrForm, 1}, {"a = b", api.ErrForm, 2}, {"a, b", api.ErrForm, 1}, {"a; b", api.ErrForm, 1}, {"a } b", api.ErrForm, 2}, {"-1", api.ErrForm, 0}, {"a [ b", api.ErrForm, 2}, {"a u8 b", api.ErrForm, 2}, {"(a ; b)", api.ErrForm, 3}, {"(a struct b)", api.ErrForm, 3}, {"a + = b", api.ErrForm, 4},
		{"0x", api.ErrForm, 0}, {"a + 1b", api.ErrForm, 4}, {"0b12", api.ErrForm, 0}, {"a == 0X1", api.ErrForm, 5},
		{"9223372036854775808", api.ErrRange, 0}, {"a * 0xffffffffffffffff", api.ErrRange, 4}, {"18446744073709551616 +", api.ErrRange, 0}, {"(99999999999999999999 ;", api.ErrRange, 1},
		{"abcdefghijklm", api.ErrLimit, 0}, {"1 + abcdefghijklm +", api.ErrLimit, 4}, {"1 abcdefghijklm", api.ErrForm, 2},
		{"((((((((( a )))))))))", api.ErrLimit, 8}, {"a + (((((((((", api.ErrLimit, 12}, {"((((((((", api.ErrForm, 8}, {"1 (((((((((", api.ErrForm, 2},
	} {
		// What may not stand at the expression's end is the next token, or the text's end.
		amiss(t, "when "+c.s+"{ u8 n; } }", c.err, 5+c.at)
		amiss(t, "bytes b["+c.s+"]; }", c.err, 8+c.at)
		amiss(t, "u8 n["+c.s+"]; }", c.err, 5+c.at)
		amiss(t, "p n["+c.s+"]; }", c.err, 4+c.at)
		amiss(t, "when 1 { when "+c.s+"{ u8 n; } }", c.err, 14+c.at)
		amiss(t, "when "+c.s, c.err, 5+c.at)
		amiss(t, "bytes b["+c.s, c.err, 8+c.at)
	}
	read(t, head+"bytes b[((((((((a))))))))]; }")
	read(t, head+"when 1 { when 1 { when ((((((((a)))))))) {} } } }")
	// Each must have the mark that ends it.
	for s, at := range map[string]int{
		"when a }": 7, "when a ]": 7, "when a ; }": 7, "when a [ {}": 7, "when a": 6, "when a  # {": 11, "when {}": 5, "bytes b[a } ;": 10, "bytes b[a { ]": 10, "bytes b[a ; }": 10, "bytes b[a": 9, "bytes b[ ": 9, "bytes b[]; }": 8, "u8 n[]; }": 5, "p n[]; }": 4, "u8 n[1;": 6, "u8 n[1]": 7, "u8 n[1]]": 7, "u8 n[1][2];": 7, "bytes b[1] }": 11, "bytes b[1]": 10, "u8 n(1);": 4, "bytes b;": 7, "bytes b = 1;": 8, "bytes b(1);": 7, "bytes [1];": 6, "bytes": 5, "bytes ;": 6, "when a == {}": 10,
	} {
		amiss(t, s, api.ErrForm, at)
	}
}

// 17.1: just MaxTypes structs, and one more; whatever is wrong with it, but for its word.
func TestParseManyTypes(t *testing.T) {
	for n := range api.MaxTypes + 1 {
		if l := read(t, strings.Repeat("struct a {}\n", n)); len(l) != n {
			t.Errorf("of %d structs there are %d", n, len(l))
		}
	}
	full := strings.Repeat("struct a {}\n", api.MaxTypes)
	for _, more := range []string{"struct a {}", "struct", "struct struct", "struct }", "struct abcdefghijklm", "struct a {} struct b {}"} {
		wrong(t, full+more, api.ErrLimit, len(full))
	}
	wrong(t, full+"struct a { u8 n! = 1;", api.ErrForm, len(full)+15)
	for _, more := range []string{"a", "}", "{", "u8", "abcdefghijklm", "1", "; struct a {}"} {
		wrong(t, full+more, api.ErrForm, len(full))
	}
	// In an expression it is a name, in the last one, too.
	read(t, full[:len(full)-3]+"{ when struct { bytes b[struct + struct]; } }")
	wrong(t, full[:len(full)-3]+"{ struct b {} }", api.ErrForm, len(full)-1)
}

// 17.1: just MaxItems items of a block, and one more: ahead of all that is wrong with it.
func TestParseManyItems(t *testing.T) {
	for _, item := range []string{"u8 n;", "bytes b[1];", "p n;", "p n[1];", "when 1 {}", "when 1 { u8 a; u8 b; }", "u8 n = size b;"} {
		for n := range api.MaxItems + 1 {
			s := strings.Repeat(item, n)
			if l := read(t, head+s+"}"); len(l[0].Items) != n {
				t.Errorf("of %d times %s there are %d", n, item, len(l[0].Items))
			}
			if l := read(t, head+"when 1 {"+s+"} u8 z; }"); len(l[0].Items[0].Items) != n {
				t.Errorf("of %d times %s in a when there are %d", n, item, len(l[0].Items[0].Items))
			}
		}
		full := strings.Repeat(item, api.MaxItems)
		for _, more := range append([]string{item, "u8", "when", "bytes", "x", "abcdefghijklm", "struct", "size", "1", "0x", ";", "{", "[", "]", "(", "=", "+", "==", ","}, numbers...) {
			amiss(t, full+more, api.ErrLimit, len(full))
			amiss(t, full+" "+more+"}", api.ErrLimit, len(full)+1)
			amiss(t, "when 1 {"+full+more+"} }", api.ErrLimit, 8+len(full))
			amiss(t, full[len(item):]+"when 1 {"+full+more+"} }", api.ErrLimit, 8+2*len(full)-len(item))
		}
		// At the text's end all that is missing is what closes it; it is no `}`.
		amiss(t, full, api.ErrLimit, len(full))
		amiss(t, full[len(item):], api.ErrForm, len(full)-len(item))
		// Each block has items of its own.
		read(t, head+full[len(item):]+"when 1 {"+full+"} }")
		read(t, head+full+"} struct b {"+full+"}")
	}
}

// 17.1: a `{` in just MaxDepth others, and in one fewer.
func TestParseDepth(t *testing.T) {
	for n := range api.MaxDepth {
		open, shut := strings.Repeat("when 1 {", n), strings.Repeat("}", n)
		read(t, head+open+shut+"}")
		read(t, head+open+shut+open+shut+"} struct b {"+open+shut+"}")
		asTold(t, head+open+" u8 n; "+shut+"u8 m; }")
		amiss(t, open+shut, api.ErrForm, len(open+shut))
	}
	full := strings.Repeat("when 1 {", api.MaxDepth-1)
	for _, more := range []string{"when 1 {", "when 1 { }", "when 1 { ;", "when 1 { when 1 {", "when 1 { when {"} {
		amiss(t, full+more, api.ErrLimit, len(full)+7)
	}
	amiss(t, full+"u8 n; when a + (b) { }", api.ErrLimit, len(full)+19)
	// Ahead of it: what may not stand there, and what is wrong with the expression.
	for more, at := range map[string]int{"when {": 5, "when 1 + {": 9, "when (1 {": 8, "when 1 ;": 7, "when 1": 6, "{": 0, "u8 {": 3, "u8 n {": 5, "bytes b {": 8, "u8 n = {": 7, "u8 n [ {": 7} {
		amiss(t, full+more, api.ErrForm, len(full)+at)
	}
	amiss(t, full+"when 9223372036854775808 {", api.ErrRange, len(full)+5)
	amiss(t, full+"when abcdefghijklm {", api.ErrLimit, len(full)+5)
}

// 17.1: of several tokens that are wrong the first one is told.
func TestParseFirst(t *testing.T) {
	for _, c := range []struct {
		s   string
		err api.Errno
		at  int
	}{
		{"u8 abcdefghijklm = 1;", api.ErrLimit, 3}, {"u8 1 abcdefghijklm;", api.ErrForm, 3}, {"abcdefghijklm abcdefghijkln;", api.ErrLimit, 0}, {"u8 u8 abcdefghijklm", api.ErrForm, 3},
		{"bytes abcdefghijklm[0x];", api.ErrLimit, 6}, {"bytes b[0x] abcdefghijklm", api.ErrForm, 8}, {"bytes b[9223372036854775808;", api.ErrRange, 8}, {"bytes b[1; bytes c[9223372036854775808];", api.ErrForm, 9},
		{"u8 n = size abcdefghijklm abcdefghijklm;", api.ErrLimit, 12}, {"u8 n = none abcdefghijklm;", api.ErrForm, 7}, {"u32le n = check abcdefghijklm 1;", api.ErrLimit, 16}, {"u32le n = check 1 abcdefghijklm;", api.ErrForm, 16}, {"when abcdefghijklm ;", api.ErrLimit, 5}, {"when ; abcdefghijklm", api.ErrForm, 5},
	} {
		amiss(t, c.s, c.err, c.at)
	}
}

// sample has each kind of item, each rule, and several structs.
var sample = []string{
	"struct", "pair", "{", "u8", "n", "=", "size", "s", ";", "bytes", "s", "[", "n", "]", ";", "}",
	"struct", "top", "{", "u16be", "kind", ";", "u8", "many", "=", "count", "l", ";", "pair", "l", "[", "many", "+", "(", "1", ")", "]", ";",
	"when", "kind", "==", "0x10", "{", "i8", "more", "[", "2", "]", ";", "when", "1", "{", "}", "pair", "p", ";", "}",
	"u32le", "sum", "=", "check", "kind", "l", ";", "u32be", "sam", "=", "check", "sum", ";", "}",
}

// vocabulary is tokens of all sorts.
func vocabulary() []string {
	return slices.Concat(kept, numbers, []string{"==", "!=", "{", "}", "[", "]", "(", ")", ";", ",", "=", "+", "-", "*", "&", "|", "<", ">", "a", "abcdefghijkl", "abcdefghijklm", "0", "007", "0x", "9223372036854775808"})
}

// 17.1: each token in each place left out, doubled, or another one, or another one ahead of it; and the text cut off there.
func TestParseEachToken(t *testing.T) {
	d := drawn(1)
	text := func(l ...[]string) string { return d.spread(slices.Concat(l...)) }
	for i := range len(sample) + 1 {
		left, right := sample[:i], sample[i:]
		asTold(t, text(left))
		asTold(t, text(right))
		for _, w := range vocabulary() {
			asTold(t, text(left, []string{w}, right))
			asTold(t, text(left, []string{w}))
			if i < len(sample) {
				asTold(t, text(left, []string{w}, right[1:]))
			}
		}
		if i < len(sample) {
			asTold(t, text(left, right[1:]))
			asTold(t, text(left, right[:1], right))
		}
	}
	if e, _ := errorTold(text(sample)); e != api.OK {
		t.Errorf("the sample is wrong: %d", e)
	}
}

// 17.1, 17.2: all rows of a few tokens, wherever one is.
func TestParseAll(t *testing.T) {
	var all func(s string, n int, kinds []string)
	all = func(s string, n int, kinds []string) {
		asTold(t, s)
		if n > 0 {
			for _, k := range kinds {
				all(s+k+" ", n-1, kinds)
			}
		}
	}
	all("", 4, []string{"struct", "a", "{", "}", ";", "u8", "abcdefghijklm"})
	all(head, 5, []string{"u8", "a", "[", "]", ";", "1", "}"})
	all(head+"u8 a ", 5, []string{"=", "check", "a", ";", "}", "size"})
	all(head+"when ", 5, []string{"1", "+", "(", ")", "{", "}"})
	all(head, 2, vocabulary())
	all(head+"u8 a ", 2, vocabulary())
	all(head+"u32le a = check a ", 2, vocabulary())
	all(strings.Repeat("struct a {} ", 7), 5, []string{"struct", "a", "{", "}"})
	all(head+strings.Repeat("u8 a; ", 14), 5, []string{"u8", "a", ";", "}"})
	all(head+strings.Repeat("when 1 { ", 6), 5, []string{"when", "1", "{", "}"})
}

// 17.1, 17.2: drawn templates, and what comes of them when tokens are changed.
func TestParseDrawn(t *testing.T) {
	d := drawn(2)
	good := 0
	for range 4000 {
		l := d.template()
		s := d.spread(l)
		if e, _ := errorTold(s); e == api.OK {
			good++
		}
		asTold(t, s)
		i := d.below(len(l))
		asTold(t, d.spread(l[:i]))
		asTold(t, d.spread(slices.Delete(slices.Clone(l), i, i+1)))
		asTold(t, d.spread(slices.Insert(slices.Clone(l), i, d.one(vocabulary()...))))
		l[i] = d.one(vocabulary()...)
		asTold(t, d.spread(l))
		at := d.below(len(s))
		asTold(t, s[:at]+d.one("", "@", "#", "\n", " ", "=", "a", "}", "!")+s[at+d.below(2):])
	}
	if good != 4000 {
		t.Errorf("of 4000 templates %d are some", good)
	}
}

// 17.2: Print: each sort of line, told by hand.
func TestPrint(t *testing.T) {
	for _, c := range []struct{ s, want string }{
		{"", ""}, {"# x", ""},
		{"struct a{}", "struct a {\n}\n"},
		{"struct a {} struct b {}", "struct a {\n}\nstruct b {\n}\n"},
		{"struct a{u8 n;p q;}", "struct a {\n  u8 n;\n  p q;\n}\n"},
		{"struct a{u8 n [ 2 ] ;p q[n+1];bytes b[(n)];}", "struct a {\n  u8 n[2];\n  p q[n + 1];\n  bytes b[n];\n}\n"},
		{"struct a{u8 n=size b;i8 m=count b;}", "struct a {\n  u8 n = size b;\n  i8 m = count b;\n}\n"},
		{"struct a{u32le n=check b;u32be m=check b c;u32le o=check b b;}", "struct a {\n  u32le n = check b;\n  u32be m = check b c;\n  u32le o = check b;\n}\n"},
		{"struct a{when n==1{}}", "struct a {\n  when n == 1 {\n  }\n}\n"},
		{"struct a{when (n)*(m-0x10){u8 k;when 0b1{bytes b[2];}u8 l;}u8 z;}struct b{a x;}", "struct a {\n  when n * (m - 16) {\n    u8 k;\n    when 1 {\n      bytes b[2];\n    }\n    u8 l;\n  }\n  u8 z;\n}\nstruct b {\n  a x;\n}\n"},
		{"struct a{bytes b[9223372036854775807];}", "struct a {\n  bytes b[9223372036854775807];\n}\n"},
	} {
		if got := Print(read(t, c.s)); got != c.want {
			t.Errorf("Print of %q = %q, want %q", c.s, got, c.want)
		}
	}
	for _, word := range numbers {
		for _, tail := range []string{"", "[7]", " = size b", " = count b", " = check b", " = check b c"} {
			s := "struct a {\n  " + word + " n" + tail + ";\n}\n"
			if got := Print(read(t, s)); got != s {
				t.Errorf("Print of %q = %q", s, got)
			}
		}
	}
	if got := Print(nil); got != "" {
		t.Errorf("Print of nothing = %q", got)
	}
}

// unplaced is structs without their places.
func unplaced(l []api.Type) []api.Type {
	l = tidy(l)
	for i := range l {
		l[i].At = 0
		unplace(l[i].Items)
	}
	return l
}

func unplace(l []api.Item) {
	for i := range l {
		l[i].At = 0
		if l[i].Count != nil {
			x, _ := expr.Parse(expr.Text(l[i].Count))
			l[i].Count = x
		}
		unplace(l[i].Items)
	}
}

// 17.2: what is written is read: Parse of what Print tells is the same, but for places; and Print of that is the same text.
func TestPrintBack(t *testing.T) {
	d := drawn(3)
	for range 3000 {
		s := d.spread(d.template())
		l := read(t, s)
		text := Print(l)
		if len(text) > api.MaxText {
			continue
		}
		back := read(t, text)
		if !reflect.DeepEqual(unplaced(back), unplaced(l)) || Print(back) != text {
			t.Fatalf("Parse of %q, which Print tells of %q, = %s; want %s", text, s, shown(back), shown(l))
		}
	}
}

// 17.2: each line has two blanks more than what it lies in, and no other blanks than those that it must have.
func TestPrintLines(t *testing.T) {
	d := drawn(4)
	for range 1000 {
		text := Print(read(t, d.spread(d.template())))
		if text != "" && !strings.HasSuffix(text, "\n") {
			t.Fatalf("the last line of %q doesn't end", text)
		}
		deep := 0
		for l := range strings.Lines(text) {
			line := strings.TrimSuffix(l, "\n")
			bare := strings.TrimLeft(line, " ")
			if bare == "}" {
				deep--
			}
			if len(line)-len(bare) != 2*deep || strings.TrimSpace(line) != bare || strings.Contains(bare, "  ") || strings.Contains(bare, " ;") || strings.Contains(bare, " [") || strings.Contains(bare, "[ ") || strings.Contains(bare, " ]") {
				t.Fatalf("%q is a line in %d others", line, deep)
			}
			if strings.HasSuffix(bare, "{") {
				deep++
			}
		}
		if deep != 0 {
			t.Fatalf("in %q %d blocks stay open", text, deep)
		}
	}
}

// P1: Print of what Parse never tells ends, and doesn't panic.
func TestPrintOdd(t *testing.T) {
	ends := []int{math.MinInt, -1, 0, 1, 2, 3, 4, 5, 8, 9, math.MaxInt}
	for _, a := range ends {
		for _, b := range ends {
			for _, x := range []api.Item{{Kind: a, Rule: b}, {Kind: api.Scalar, Width: a, Order: b}, {Kind: api.Scalar, Width: 1, Rule: a, At: b, Many: true}, {Kind: a, At: b, Items: []api.Item{{}}}} {
				Print([]api.Type{{At: b, Items: []api.Item{x, x}}, {}})
			}
		}
	}
	// Places don't matter.
	for _, at := range ends {
		l := read(t, "struct a { u8 n[1 + 2]; }")
		l[0].At, l[0].Items[0].At, l[0].Items[0].Count.At = at, at, at
		if got := Print(l); got != "struct a {\n  u8 n[1 + 2];\n}\n" {
			t.Errorf("with places %d Print tells %q", at, got)
		}
	}
}

// P1: a text of whatever bytes, and as many of one token as it can have.
func TestParseOdd(t *testing.T) {
	d := drawn(5)
	for range 3000 {
		var b []byte
		for range d.below(40) {
			b = append(b, byte(d.below(256)))
		}
		asTold(t, string(b))
	}
	for _, w := range vocabulary() {
		for _, s := range []string{"", head, head + "u8 a ", head + "when ", head + "bytes b[", head + "u8 n = check "} {
			s += strings.Repeat(w+" ", (api.MaxText-len(s))/(len(w)+1))
			asTold(t, s)
		}
	}
	for _, w := range []string{"when 1{", "u8 n;", "struct a{}", "struct a{u8 n;}", "when(", "bytes b[1];"} {
		asTold(t, strings.Repeat(w, api.MaxText/len(w)))
		asTold(t, head+strings.Repeat(w, 200))
	}
}

// P4: the same is told each time; what was told is the caller's, and what is handed in isn't written into.
func TestAgain(t *testing.T) {
	s := strings.Join(sample, " ")
	want := typesTold(s)
	l := read(t, s)
	text := Print(l)
	if !reflect.DeepEqual(tidy(l), tidy(want)) {
		t.Errorf("Print makes %s of what it is handed", shown(l))
	}
	m := read(t, s)
	for i := range l {
		l[i].Name = "z"
		for j := range l[i].Items {
			if x := l[i].Items[j].Count; x != nil {
				*x = api.Expr{}
			}
			l[i].Items[j] = api.Item{}
		}
		_ = append(l[i].Items[:0], api.Item{Name: "z"})
	}
	if !reflect.DeepEqual(tidy(m), tidy(want)) || Print(m) != text {
		t.Errorf("what was told is %s then", shown(m))
	}
	wrong(t, "struct", api.ErrForm, 6)
	same(t, s, want)
	// Nothing that stands behind a list's length is written into.
	room := append(make([]api.Type, 0, 4), m...)
	behind := room[:4]
	Print(room)
	if !reflect.DeepEqual(behind[len(m)], api.Type{}) {
		t.Errorf("Print writes behind what it is handed")
	}
}

// 17.1: the place of each error is where a token begins, or the text's end; and nothing hangs on what stands behind it, but for a Lex error.
func TestParsePlaces(t *testing.T) {
	d := drawn(6)
	for range 2000 {
		l := d.template()
		l[d.below(len(l))] = d.one(vocabulary()...)
		s := d.spread(l)
		_, err := Parse(s)
		e, at := place(err)
		if e == api.OK {
			continue
		}
		tokens, _ := lex.Lex(s)
		i := slices.IndexFunc(tokens, func(t api.Token) bool { return t.At == at })
		if i < 0 && at != len(s) {
			t.Fatalf("Parse(%q): error %d at %d, where no token begins", s, e, at)
		}
		if i >= 0 {
			wrong(t, s[:at+len(tokens[i].Text)], e, at)
			wrong(t, s[:at+len(tokens[i].Text)]+" struct "+strconv.Itoa(d.below(100))+" }", e, at)
		}
	}
}
