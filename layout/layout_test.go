package layout

import (
	"errors"
	"fmt"
	"math"
	"reflect"
	"slices"
	"strconv"
	"strings"
	"testing"

	"escritoire/api"
	"escritoire/tmpl"
	"escritoire/types"
)

// drawn is numbers that look drawn, the same each time.
type drawn uint64

func (d *drawn) below(most int) int {
	*d = *d*6364136223846793005 + 1442695040888963407
	return int(uint64(*d>>33) % uint64(most))
}

// one is one of several texts.
func (d *drawn) one(l ...string) string {
	return l[d.below(len(l))]
}

// read is a text's structs, whether they fit together or not.
func read(t *testing.T, s string) []api.Type {
	t.Helper()
	l, err := tmpl.Parse(s)
	if err != nil {
		t.Fatalf("Parse(%.300q): %v", s, err)
	}
	return l
}

// fitting is a text's structs, which fit together.
func fitting(t *testing.T, s string) []api.Type {
	t.Helper()
	l := read(t, s)
	if err := types.Check(l); err != nil {
		t.Fatalf("Check of %.300q: %v", s, err)
	}
	return l
}

// place is an error's Errno, and the place that it has; -1, if it has none.
func place(err error) (api.Errno, int) {
	var a *api.At
	if errors.As(err, &a) {
		return api.Tell(err), a.Place
	}
	return api.Tell(err), -1
}

// kind is the word of a Node's Kind.
func kind(n api.Node) string {
	words := map[int]string{api.Scalar: "num", api.Bytes: "bytes", api.Struct: "struct", api.When: "when", api.List: "list"}
	if w, ok := words[n.Kind]; ok {
		return w
	}
	return strconv.Itoa(n.Kind)
}

// shape is a Node with all that is in it: `name:kind@At+Size`, `=N`, Text and `(Kids)`, the latter ones where its Kind has them, or where something stands in them.
func shape(n api.Node) string {
	s := fmt.Sprintf("%s:%s@%d+%d", n.Name, kind(n), n.At, n.Size)
	if n.N != 0 || n.Kind == api.Scalar || n.Kind == api.When {
		s += fmt.Sprintf("=%d", n.N)
	}
	if n.Text != "" || n.Kind == api.Bytes {
		s += fmt.Sprintf("%q", n.Text)
	}
	if len(n.Kids) == 0 && (n.Kind == api.Scalar || n.Kind == api.Bytes) {
		return s
	}
	var kids []string
	for _, k := range n.Kids {
		kids = append(kids, shape(k))
	}
	return s + "(" + strings.Join(kids, " ") + ")"
}

// leaves is all numbers and bytes of a Node, in order.
func leaves(n api.Node) []api.Node {
	if n.Kind == api.Scalar || n.Kind == api.Bytes {
		return []api.Node{n}
	}
	var l []api.Node
	for _, k := range n.Kids {
		l = append(l, leaves(k)...)
	}
	return l
}

// nodes is how many Nodes a Node has, itself too.
func nodes(n api.Node) int {
	many := 1
	for _, k := range n.Kids {
		many += nodes(k)
	}
	return many
}

// same holds what Read tells of a text against what is told another way; it is the Node, if there is one.
func same(t *testing.T, l []api.Type, root, s string) (api.Node, api.Errno) {
	t.Helper()
	n, err := Read(l, root, s)
	e, at := place(err)
	m, want, where := readTold(l, root, s)
	if e != want || at != where || shape(n) != shape(m) {
		t.Errorf("Read of %.100q as %q of %.500q = %.1000s, error %d at %d; want %.1000s, error %d at %d", s, root, tmpl.Print(l), shape(n), e, at, shape(m), want, where)
	}
	return n, e
}

// sameWritten holds what Write tells of a Node against what is told another way.
func sameWritten(t *testing.T, l []api.Type, root string, n api.Node) api.Errno {
	t.Helper()
	s, err := Write(l, root, n)
	e, at := place(err)
	want, wrong := writeTold(l, root, n)
	if e != wrong || at != -1 || s != want {
		t.Errorf("Write of %.1000s as %q of %.500q = %.100q, error %d at %d; want %.100q, error %d", shape(n), root, tmpl.Print(l), s, e, at, want, wrong)
	}
	return e
}

// back holds that a Node, which Read told of a text, is that text again, and that text that Node.
func back(t *testing.T, l []api.Type, root, s string, n api.Node) {
	t.Helper()
	made, err := Write(l, root, n)
	if err != nil || made != s {
		t.Errorf("Write of what Read told of %.100q, by %.500q: %.100q, %v", s, tmpl.Print(l), made, err)
	}
	if m, err := Read(l, root, made); err != nil || shape(m) != shape(n) {
		t.Errorf("Read of what Write made of %.1000s: %.1000s, %v", shape(n), shape(m), err)
	}
}

// fails holds Read of a text against the error, and its place, that it must tell (-1: none).
func fails(t *testing.T, code, root, s string, want api.Errno, where int) {
	t.Helper()
	n, err := Read(read(t, code), root, s)
	if e, at := place(err); e != want || at != where || !reflect.DeepEqual(n, api.Node{}) {
		t.Errorf("Read of %.100q as %q of %.500q = %.300s, error %d at %d; want error %d at %d", s, root, code, shape(n), e, at, want, where)
	}
}

// reads holds Read of a text, as a template's last struct, against a shape; Write makes that text again; one byte fewer, or more, is told where it is missed, or too many.
func reads(t *testing.T, code, s, want string) {
	t.Helper()
	l := fitting(t, code)
	root := l[len(l)-1].Name
	n, err := Read(l, root, s)
	if err != nil || shape(n) != want {
		t.Fatalf("Read of %.100q by %.500q = %.1000s, %v; want %.1000s", s, code, shape(n), err, want)
	}
	back(t, l, root, s, n)
	same(t, l, root, s)
	for to := range s {
		i := slices.IndexFunc(leaves(n), func(x api.Node) bool { return x.At+x.Size > to })
		fails(t, code, root, s[:to], api.ErrForm, leaves(n)[i].At)
	}
	for _, more := range []string{"\x00", "\xff", "ab", strings.Repeat("z", 500)} {
		fails(t, code, root, s+more, api.ErrForm, len(s))
	}
}

// numbers is the words of numbers, in 17.1's order, and what they say.
var numbers = []struct {
	word         string
	width, order int
	signed       bool
}{
	{"u8", 1, api.Little, false}, {"i8", 1, api.Little, true},
	{"u16le", 2, api.Little, false}, {"u16be", 2, api.Big, false}, {"i16le", 2, api.Little, true}, {"i16be", 2, api.Big, true},
	{"u32le", 4, api.Little, false}, {"u32be", 4, api.Big, false}, {"i32le", 4, api.Little, true}, {"i32be", 4, api.Big, true},
	{"i64le", 8, api.Little, true}, {"i64be", 8, api.Big, true},
}

// 19.1: each kind of number, the least and the greatest that there are among them.
func TestReadNumber(t *testing.T) {
	for _, c := range []struct {
		words string
		s     string
		want  int
	}{
		{"u8 i8", "\x00", 0}, {"u8 i8", "\x7f", 127}, {"u8", "\x80", 128}, {"i8", "\x80", -128}, {"u8", "\xff", 255}, {"i8", "\xff", -1},
		{"u16le i16le", "\x34\x12", 0x1234}, {"u16be i16be", "\x12\x34", 0x1234}, {"u16le u16be", "\xff\xff", 65535}, {"i16le i16be", "\xff\xff", -1},
		{"u16le", "\x00\x80", 32768}, {"i16le", "\x00\x80", -32768}, {"u16be", "\x80\x00", 32768}, {"i16be", "\x80\x00", -32768}, {"i16le", "\xff\x7f", 32767}, {"i16be", "\x7f\xff", 32767},
		{"u16le i16le", "\x80\x00", 128}, {"u16be i16be", "\x00\x80", 128}, {"i16le", "\xfe\xff", -2}, {"i16be", "\xff\xfe", -2},
		{"u32le i32le", "\x78\x56\x34\x12", 0x12345678}, {"u32be i32be", "\x12\x34\x56\x78", 0x12345678}, {"u32le u32be", "\xff\xff\xff\xff", 4294967295}, {"i32le i32be", "\xff\xff\xff\xff", -1},
		{"u32le", "\x00\x00\x00\x80", 1 << 31}, {"i32le", "\x00\x00\x00\x80", -1 << 31}, {"u32be", "\x80\x00\x00\x00", 1 << 31}, {"i32be", "\x80\x00\x00\x00", -1 << 31}, {"i32le", "\xff\xff\xff\x7f", 1<<31 - 1}, {"i32be", "\x7f\xff\xff\xff", 1<<31 - 1},
		{"u32le i32le", "\x01\x00\x00\x00", 1}, {"u32be i32be", "\x01\x00\x00\x00", 1 << 24},
		{"i64le", "\xf0\xde\xbc\x9a\x78\x56\x34\x12", 0x123456789abcdef0}, {"i64be", "\x12\x34\x56\x78\x9a\xbc\xde\xf0", 0x123456789abcdef0}, {"i64le i64be", "\xff\xff\xff\xff\xff\xff\xff\xff", -1},
		{"i64le", "\x00\x00\x00\x00\x00\x00\x00\x80", math.MinInt64}, {"i64be", "\x80\x00\x00\x00\x00\x00\x00\x00", math.MinInt64}, {"i64le", "\xff\xff\xff\xff\xff\xff\xff\x7f", math.MaxInt64}, {"i64be", "\x7f\xff\xff\xff\xff\xff\xff\xff", math.MaxInt64},
		{"i64le", "\x01\x00\x00\x00\x00\x00\x00\x00", 1}, {"i64be", "\x01\x00\x00\x00\x00\x00\x00\x00", 1 << 56}, {"i64le i64be", "\x00\x00\x00\x00\x00\x00\x00\x00", 0},
	} {
		for _, w := range strings.Fields(c.words) {
			size := len(c.s)
			reads(t, "struct a { "+w+" n; }", c.s, fmt.Sprintf("a:struct@0+%d(n:num@0+%d=%d)", size, size, c.want))
			reads(t, "struct a { u8 k; "+w+" n; u8 m; }", "\x07"+c.s+"\x09", fmt.Sprintf("a:struct@0+%d(k:num@0+1=7 n:num@1+%d=%d m:num@%d+1=9)", size+2, size, c.want, size+1))
			reads(t, "struct a { "+w+" n[2]; }", c.s+c.s, fmt.Sprintf("a:struct@0+%d(n:list@0+%d(n:num@0+%d=%d n:num@%d+%d=%d))", 2*size, 2*size, size, c.want, size, size, c.want))
			// A number that hangs on others is read as it stands there.
			reads(t, "struct a { "+w+" n = size b; u8 b; }", c.s+"\x09", fmt.Sprintf("a:struct@0+%d(n:num@0+%d=%d b:num@%d+1=9)", size+1, size, c.want, size))
		}
	}
	reads(t, "struct a { u8 b[2]; u8 n = count b; u32le c = check b n; }", "\x01\x02\x09\x04\x03\x02\x01", "a:struct@0+7(b:list@0+2(b:num@0+1=1 b:num@1+1=2) n:num@2+1=9 c:num@3+4=16909060)")
}

// 19.1: bytes, as many as their Count comes to.
func TestReadBytes(t *testing.T) {
	reads(t, "struct a { bytes b[3]; }", "xyz", `a:struct@0+3(b:bytes@0+3"xyz")`)
	reads(t, "struct a { bytes b[0]; bytes c[2]; bytes d[0]; }", "\x00\xff", `a:struct@0+2(b:bytes@0+0"" c:bytes@0+2"\x00\xff" d:bytes@2+0"")`)
	reads(t, "struct a { u8 n; bytes b[n]; u8 m; }", "\x02xy\x05", `a:struct@0+4(n:num@0+1=2 b:bytes@1+2"xy" m:num@3+1=5)`)
	reads(t, "struct a { u8 n; bytes b[n]; u8 m; }", "\x00\x05", `a:struct@0+2(n:num@0+1=0 b:bytes@1+0"" m:num@1+1=5)`)
	reads(t, "struct a { u8 n; i8 m; bytes b[n * 2 + m]; bytes c[n > 2]; bytes d[(n == 3) + (m != 255)]; }", "\x03\xffvwxyz123", `a:struct@0+10(n:num@0+1=3 m:num@1+1=-1 b:bytes@2+5"vwxyz" c:bytes@7+1"1" d:bytes@8+2"23")`)
	reads(t, "struct a { u8 n = size b; bytes b[n]; u32be c = check n b; }", "\x01x\x00\x00\x00\x01", `a:struct@0+6(n:num@0+1=1 b:bytes@1+1"x" c:num@2+4=1)`)
	// All of what is left, and one more than that.
	long := strings.Repeat("z", api.MaxBytes-2)
	size := strconv.Itoa(len(long))
	reads(t, "struct a { u16be n; bytes b[n]; }", "\x0f\x9e"+long, "a:struct@0+4000(n:num@0+2="+size+" b:bytes@2+"+size+strconv.Quote(long)+")")
	fails(t, "struct a { u16be n; bytes b[n]; }", "a", "\x0f\x9f"+long, api.ErrForm, 2)
	fails(t, "struct a { bytes b[3]; }", "a", "xy", api.ErrForm, 0)
	fails(t, "struct a { bytes b[2]; }", "a", "xyz", api.ErrForm, 2)
}

// 19.1: structs as others' parts.
func TestReadStruct(t *testing.T) {
	reads(t, "struct a { }", "", "a:struct@0+0()")
	reads(t, "struct s { } struct a { s x; s y; }", "", "a:struct@0+0(x:struct@0+0() y:struct@0+0())")
	reads(t, "struct s { u8 n; bytes b[n]; } struct a { s x; u8 m; s y; }", "\x01x\x09\x00", `a:struct@0+4(x:struct@0+2(n:num@0+1=1 b:bytes@1+1"x") m:num@2+1=9 y:struct@3+1(n:num@3+1=0 b:bytes@4+0""))`)
	// A struct that is called as an item; an item that is called as its struct.
	reads(t, "struct a { u8 a; } struct b { a a; a b; }", "\x01\x02", "b:struct@0+2(a:struct@0+1(a:num@0+1=1) b:struct@1+1(a:num@1+1=2))")
	// As deep as structs may lie in one another.
	code, want := "struct s1 { u8 n; bytes b[n]; }", `n:num@7+1=2 b:bytes@8+2"xy"`
	for i := 2; i <= api.MaxTypes; i++ {
		code += fmt.Sprintf(" struct s%d { u8 k; s%d x; i8 m; }", i, i-1)
		want = fmt.Sprintf("k:num@%d+1=%d x:struct@%d+%d(%s) m:num@%d+1=%d", 8-i, 8-i, 9-i, 2*i-1, want, 8+i, -i)
	}
	reads(t, code, "\x00\x01\x02\x03\x04\x05\x06\x02xy\xfe\xfd\xfc\xfb\xfa\xf9\xf8", "s8:struct@0+17("+want+")")
	// The struct that is asked for, wherever it stands.
	code = "struct s { u8 n; } struct a { s x; } struct b { a y; u8 m; }"
	l := fitting(t, code)
	for root, want := range map[string]string{
		"s": "s:struct@0+1(n:num@0+1=1)", "a": "a:struct@0+1(x:struct@0+1(n:num@0+1=1))", "b": "b:struct@0+2(y:struct@0+1(x:struct@0+1(n:num@0+1=1)) m:num@1+1=2)",
	} {
		s := "\x01"
		if root == "b" {
			s = "\x01\x02"
		}
		n, e := same(t, l, root, s)
		if e != api.OK || shape(n) != want {
			t.Errorf("Read as %q: %s, error %d; want %s", root, shape(n), e, want)
		}
		back(t, l, root, s, n)
	}
}

// 19.1: what is there if something is so.
func TestReadWhen(t *testing.T) {
	code := "struct a { i8 n; when n { u8 k; bytes b[k]; } u8 m; }"
	reads(t, code, "\x00\x07", "a:struct@0+2(n:num@0+1=0 :when@1+0=0() m:num@1+1=7)")
	for n, c := range map[int]string{1: "\x01", 2: "\x02", 127: "\x7f", -1: "\xff", -128: "\x80"} {
		reads(t, code, c+"\x02xy\x07", fmt.Sprintf(`a:struct@0+5(n:num@0+1=%d :when@1+3=1(k:num@1+1=2 b:bytes@2+2"xy") m:num@4+1=7)`, n))
		reads(t, code, c+"\x00\x07", fmt.Sprintf(`a:struct@0+3(n:num@0+1=%d :when@1+1=1(k:num@1+1=0 b:bytes@2+0"") m:num@2+1=7)`, n))
	}
	code = "struct a { u8 n; when n > 1 { when n > 2 { u8 k; } u8 m; when n == 2 { bytes b[n]; } } when n < 1 { } when n != 0 { } }"
	reads(t, code, "\x00", "a:struct@0+1(n:num@0+1=0 :when@1+0=0() :when@1+0=1() :when@1+0=0())")
	reads(t, code, "\x01", "a:struct@0+1(n:num@0+1=1 :when@1+0=0() :when@1+0=0() :when@1+0=1())")
	reads(t, code, "\x02\x05xy", `a:struct@0+4(n:num@0+1=2 :when@1+3=1(:when@1+0=0() m:num@1+1=5 :when@2+2=1(b:bytes@2+2"xy")) :when@4+0=0() :when@4+0=1())`)
	reads(t, code, "\x03\x06\x05", "a:struct@0+3(n:num@0+1=3 :when@1+2=1(:when@1+1=1(k:num@1+1=6) m:num@2+1=5 :when@3+0=0()) :when@3+0=0() :when@3+0=1())")
	// The least and the greatest numbers.
	for _, c := range []string{"9223372036854775807", "0 - 9223372036854775807 - 1", "0x100000000", "1"} {
		reads(t, "struct a { when "+c+" { u8 n; } }", "\x07", "a:struct@0+1(:when@0+1=1(n:num@0+1=7))")
	}
	for _, c := range []string{"0", "1 - 1", "9223372036854775807 + 1 + 9223372036854775807 + 1"} {
		reads(t, "struct a { when "+c+" { u8 n; } }", "", "a:struct@0+0(:when@0+0=0())")
	}
	// As deep as they may lie in one another.
	open, shut, want := "", "", ""
	for i := api.MaxDepth - 1; i > 0; i-- {
		open, shut = fmt.Sprintf("u8 n%d; when n%d { ", i, i)+open, shut+"} "
		want = fmt.Sprintf("n%d:num@%d+1=1 :when@%d+%d=1(%s)", i, i-1, i, 7-i, want)
	}
	reads(t, "struct a { "+open+shut+"}", "\x01\x01\x01\x01\x01\x01\x01", "a:struct@0+7("+want+")")
}

// 19.1: many of an item.
func TestReadMany(t *testing.T) {
	reads(t, "struct a { u8 n; u8 v[n]; u8 m; }", "\x03\x05\x06\x07\x08", "a:struct@0+5(n:num@0+1=3 v:list@1+3(v:num@1+1=5 v:num@2+1=6 v:num@3+1=7) m:num@4+1=8)")
	reads(t, "struct a { u8 n; u8 v[n]; u8 m; }", "\x01\x05\x08", "a:struct@0+3(n:num@0+1=1 v:list@1+1(v:num@1+1=5) m:num@2+1=8)")
	reads(t, "struct a { u8 n; u8 v[n]; u8 m; }", "\x00\x08", "a:struct@0+2(n:num@0+1=0 v:list@1+0() m:num@1+1=8)")
	reads(t, "struct a { i16be v[2]; }", "\xff\xfe\x00\x02", "a:struct@0+4(v:list@0+4(v:num@0+2=-2 v:num@2+2=2))")
	reads(t, "struct s { u8 n; bytes b[n]; } struct a { u8 n = count l; s l[n]; }", "\x03\x00\x02xy\x01z", `a:struct@0+7(n:num@0+1=3 l:list@1+6(l:struct@1+1(n:num@1+1=0 b:bytes@2+0"") l:struct@2+3(n:num@2+1=2 b:bytes@3+2"xy") l:struct@5+2(n:num@5+1=1 b:bytes@6+1"z")))`)
	reads(t, "struct s { } struct a { s l[3]; }", "", "a:struct@0+0(l:list@0+0(l:struct@0+0() l:struct@0+0() l:struct@0+0()))")
	reads(t, "struct s { u8 n; u8 v[n]; } struct a { s l[2]; } struct b { a m[2]; }", "\x01\x05\x00\x00\x01\x06", "b:struct@0+6(m:list@0+6(m:struct@0+3(l:list@0+3(l:struct@0+2(n:num@0+1=1 v:list@1+1(v:num@1+1=5)) l:struct@2+1(n:num@2+1=0 v:list@3+0()))) m:struct@3+3(l:list@3+3(l:struct@3+1(n:num@3+1=0 v:list@4+0()) l:struct@4+2(n:num@4+1=1 v:list@5+1(v:num@5+1=6))))))")
	reads(t, "struct s { u8 k; when k { u8 x; } } struct a { s l[3]; }", "\x01\x02\x00\x03\x04", "a:struct@0+5(l:list@0+5(l:struct@0+2(k:num@0+1=1 :when@1+1=1(x:num@1+1=2)) l:struct@2+1(k:num@2+1=0 :when@3+0=0()) l:struct@3+2(k:num@3+1=3 :when@4+1=1(x:num@4+1=4))))")
	// Fewer bytes than it takes are told where the one of them begins that lacks them.
	fails(t, "struct a { u16le v[3]; }", "a", "\x01\x02\x03\x04\x05", api.ErrForm, 4)
	fails(t, "struct a { u16le v[3]; }", "a", "\x01\x02\x03\x04", api.ErrForm, 4)
	fails(t, "struct a { u16le v[3]; }", "a", "", api.ErrForm, 0)
	fails(t, "struct s { u8 n; bytes b[n]; } struct a { s l[2]; }", "a", "\x01x\x02y", api.ErrForm, 3)
}

// 19.1: the numbers for which a Count asks.
func TestReadSeen(t *testing.T) {
	// Of the same block, of one about it, behind one that is over.
	reads(t, "struct a { u8 n; when 1 { u8 m; when 1 { bytes b[n]; bytes c[m]; } bytes d[n + m]; } bytes e[n]; }", "\x01\x02abbcccd", `a:struct@0+9(n:num@0+1=1 :when@1+7=1(m:num@1+1=2 :when@2+3=1(b:bytes@2+1"a" c:bytes@3+2"bb") d:bytes@5+3"ccc") e:bytes@8+1"d")`)
	// Each struct has its own, whichever it lies in, or lies in it.
	reads(t, "struct s { u8 n; bytes b[n]; } struct a { u8 n; s x; bytes c[n]; }", "\x01\x02xyz", `a:struct@0+5(n:num@0+1=1 x:struct@1+3(n:num@1+1=2 b:bytes@2+2"xy") c:bytes@4+1"z")`)
	reads(t, "struct s { u8 n; bytes b[n]; } struct a { u8 n; s l[n]; bytes c[n]; }", "\x02\x01x\x03abcyz", `a:struct@0+9(n:num@0+1=2 l:list@1+6(l:struct@1+2(n:num@1+1=1 b:bytes@2+1"x") l:struct@3+4(n:num@3+1=3 b:bytes@4+3"abc")) c:bytes@7+2"yz")`)
	reads(t, "struct s { u8 n; when n { u8 m; bytes b[m]; } } struct a { u8 m; when m { u8 n; s x; bytes c[n + m]; } }", "\x01\x02\x01\x01xabc", `a:struct@0+8(m:num@0+1=1 :when@1+7=1(n:num@1+1=2 x:struct@2+3(n:num@2+1=1 :when@3+2=1(m:num@3+1=1 b:bytes@4+1"x")) c:bytes@5+3"abc"))`)
	// A number that hangs on others is seen as it stands there; names and words of structs don't stand in its way.
	reads(t, "struct n { u8 n = size b; bytes b[n]; } struct a { u8 s; n x; bytes b[s]; }", "\x01\x02xyz", `a:struct@0+5(s:num@0+1=1 x:struct@1+3(n:num@1+1=2 b:bytes@2+2"xy") b:bytes@4+1"z")`)
	reads(t, "struct a { u16be n; i8 m; i32le k; bytes b[n * m + k]; }", "\x01\x00\x01\x02\xff\xff\xffxy", `a:struct@0+9(n:num@0+2=256 m:num@2+1=1 k:num@3+4=-254 b:bytes@7+2"xy")`)
}

// 19.1: no struct is called so: that is told ahead of all else, without a place.
func TestReadMissing(t *testing.T) {
	for _, code := range []string{"", "struct a { }", "struct a { u8 n; } struct b { a x; }", "struct a { u8 c; u8 d; when 1 { u8 e; } }", "struct a { bytes b[0 - 1]; }"} {
		for _, root := range []string{"", "c", "A", "aa", "a ", "x", "struct", "a\x00"} {
			for _, s := range []string{"", "\x00", "abc", strings.Repeat("z", 500)} {
				fails(t, code, root, s, api.ErrMissing, -1)
			}
		}
	}
	fails(t, "", "a", "", api.ErrMissing, -1)
}

// 19.1: fewer bytes than it takes, and bytes that are left.
func TestReadForm(t *testing.T) {
	for _, n := range numbers {
		for many := range n.width {
			s := strings.Repeat("\xff", many)
			fails(t, "struct a { "+n.word+" n; }", "a", s, api.ErrForm, 0)
			fails(t, "struct a { u8 k; "+n.word+" n; u8 m; }", "a", "\x01"+s, api.ErrForm, 1)
			fails(t, "struct a { u8 k; when k { "+n.word+" n; } }", "a", "\x01"+s, api.ErrForm, 1)
			fails(t, "struct s { "+n.word+" n; } struct a { u8 k; s x; }", "a", "\x01"+s, api.ErrForm, 1)
			fails(t, "struct a { u8 k; "+n.word+" n[3]; }", "a", "\x01"+strings.Repeat("\x00", n.width)+s, api.ErrForm, 1+n.width)
		}
		s := strings.Repeat("\xff", n.width)
		fails(t, "struct a { "+n.word+" n; }", "a", s+"\x00", api.ErrForm, n.width)
		fails(t, "struct a { "+n.word+" n[2]; }", "a", s+s+"\x00", api.ErrForm, 2*n.width)
	}
	for _, code := range []string{"struct a { }", "struct a { bytes b[0]; }", "struct a { u8 v[0]; }", "struct a { when 0 { u8 n; } }", "struct s { } struct a { s x; s y[2]; }"} {
		if n, err := Read(fitting(t, code), "a", ""); err != nil || n.Size != 0 {
			t.Errorf("Read of nothing by %q: %s, %v", code, shape(n), err)
		}
		fails(t, code, "a", "\x00", api.ErrForm, 0)
		fails(t, code, "a", "xyz", api.ErrForm, 0)
	}
	code := "struct a { u8 n; bytes b[n]; u8 m; }"
	for many := range 256 {
		s := string([]byte{byte(many)}) + strings.Repeat("z", many)
		fails(t, code, "a", s[:many], api.ErrForm, min(many, 1))
		fails(t, code, "a", s, api.ErrForm, many+1)
		fails(t, code, "a", s+"zz", api.ErrForm, many+2)
	}
}

// 19.1: fewer than 0, and none, of bytes and of a list.
func TestReadBelow(t *testing.T) {
	below := []string{"0 - 1", "n - 2", "m", "0 - 9223372036854775807 - 1", "9223372036854775807 + n", "n * m - 255", "4611686018427387904 * 2"}
	none := []string{"0", "n - 1", "m + 1", "n == 2", "n & 2", "4611686018427387904 * 4", "9223372036854775807 + 9223372036854775807 + 2"}
	for _, item := range []string{"bytes b", "u8 b", "i64le b", "s b", "e b"} {
		for _, c := range below {
			code := "struct s { u8 x; } struct e { } struct a { u8 n; i8 m; " + item + "[" + c + "]; }"
			fitting(t, code)
			for _, more := range []string{"", "x", "xyz", strings.Repeat("z", 500)} {
				fails(t, code, "a", "\x01\xff"+more, api.ErrForm, 2)
				fails(t, strings.Replace(code, item, "u8 k; "+item, 1), "a", "\x01\xff"+"k"+more, api.ErrForm, 3)
				fails(t, strings.Replace(code, item, "when 2 { "+item, 1)+"}", "a", "\x01\xff"+more, api.ErrForm, 2)
			}
		}
		for _, c := range none {
			kid := `b:list@2+0()`
			if item == "bytes b" {
				kid = `b:bytes@2+0""`
			}
			reads(t, "struct s { u8 x; } struct e { } struct a { u8 n; i8 m; "+item+"["+c+"]; }", "\x01\xff", "a:struct@0+2(n:num@0+1=1 m:num@1+1=-1 "+kid+")")
		}
	}
	// The greatest one that there is.
	code := "struct e { } struct a { i64be n; bytes b[n]; }"
	most := "\x7f\xff\xff\xff\xff\xff\xff\xff"
	fails(t, code, "a", most, api.ErrForm, 8)
	fails(t, code, "a", most+"xyz", api.ErrForm, 8)
	fails(t, code, "a", "\x80\x00\x00\x00\x00\x00\x00\x00", api.ErrForm, 8)
	fails(t, strings.Replace(code, "bytes", "u8", 1), "a", most+"xyz", api.ErrForm, 11)
	fails(t, strings.Replace(code, "bytes", "e", 1), "a", most+"xyz", api.ErrLimit, 8)
	fails(t, strings.Replace(code, "bytes", "i16le", 1), "a", most+strings.Repeat("z", 2000), api.ErrLimit, 8+2*397)
}

// filled is a template of a struct of n, a list of v, and one more item; and a text for just so many Nodes with the list, but without the item.
func filled(many int, item string) (code, s string) {
	count := many - 3
	return "struct s { u8 x; } struct e { } struct a { u16be n; u8 v[n]; " + item + " }", string([]byte{byte(count >> 8), byte(count)}) + strings.Repeat("v", count)
}

// 19.1: just MaxNodes Nodes, and one more.
func TestReadLimit(t *testing.T) {
	for _, c := range []struct {
		item string // which begins as the last Node but others
		many int    // how many Nodes it is
		s    string
		at   int // where its last Node begins, from where it begins
	}{
		{"u8 x;", 1, "x", 0}, {"i64le x;", 1, "xxxxxxxx", 0}, {"u8 x = size v;", 1, "x", 0}, {"bytes x[2];", 1, "xx", 0}, {"bytes x[0];", 1, "", 0},
		{"when 1 { }", 1, "", 0}, {"when 0 { u8 x; }", 1, "", 0}, {"u8 x[0];", 1, "", 0}, {"e x[0];", 1, "", 0}, {"e x;", 1, "", 0},
		{"u8 x[1];", 2, "x", 0}, {"u8 x[2];", 3, "xy", 1}, {"u32be x[3];", 4, "xxxxyyyyzzzz", 8}, {"e x[1];", 2, "", 0}, {"e x[7];", 8, "", 0}, {"s x;", 2, "x", 0}, {"s x[1];", 3, "x", 0}, {"s x[2];", 5, "xy", 1},
		{"when 1 { u8 x; }", 2, "x", 0}, {"when 1 { when 1 { } }", 2, "", 0}, {"when 1 { bytes x[3]; u8 y; }", 3, "xxxy", 3}, {"when 1 { u8 x[2]; e y; }", 5, "xx", 2}, {"u8 x; u8 y;", 2, "xy", 1}, {"u16le x; when x { s y; }", 4, "\x01\x00y", 2},
	} {
		code, s := filled(api.MaxNodes-c.many, c.item)
		n, e := same(t, fitting(t, code), "a", s+c.s)
		if e != api.OK || nodes(n) != api.MaxNodes {
			t.Errorf("%s: error %d, %d Nodes", c.item, e, nodes(n))
		}
		back(t, fitting(t, code), "a", s+c.s, n)
		code, s = filled(api.MaxNodes+1-c.many, c.item)
		// It begins there, whether there are bytes for it, or others left, or not.
		for _, more := range []string{"", "z", "zzzzzzzzzz"} {
			fails(t, code, "a", s+c.s+more, api.ErrLimit, len(s)+c.at)
		}
		fails(t, code, "a", s+c.s[:c.at], api.ErrLimit, len(s)+c.at)
		same(t, fitting(t, code), "a", s+c.s)
		// As the first one behind all of them, whichever it is.
		code, s = filled(api.MaxNodes, c.item)
		for _, more := range []string{"", c.s, "zzzzzzzzzz"} {
			fails(t, code, "a", s+more, api.ErrLimit, len(s))
		}
	}
	// One of the list itself.
	for _, many := range []int{1, 2, 100, 1000, 65535 - 398} {
		code, s := filled(api.MaxNodes+many, "")
		fails(t, code, "a", s, api.ErrLimit, 2+397)
		fails(t, code, "a", s[:2+397], api.ErrLimit, 2+397)
		fails(t, code, "a", s[:2+396], api.ErrForm, 2+396)
	}
	// A list of lists: 2 Nodes, and of each part 3, and those of its own list; where the first one too many would begin.
	for _, c := range []struct{ parts, each, at int }{{132, 0, -1}, {133, 0, 266}, {134, 0, 266}, {99, 1, -1}, {100, 1, 299}, {1, 395, -1}, {1, 396, 397}, {2, 196, -1}, {2, 197, 396}} {
		l := fitting(t, fmt.Sprintf("struct s { u16be k; u8 v[k]; } struct a { s l[%d]; }", c.parts))
		s := strings.Repeat(string([]byte{byte(c.each >> 8), byte(c.each)})+strings.Repeat("v", c.each), c.parts)
		n, err := Read(l, "a", s)
		want, many := api.OK, 2+c.parts*(3+c.each)
		if c.at >= 0 {
			want, many = api.ErrLimit, 1
		}
		if e, at := place(err); e != want || at != c.at || nodes(n) != many {
			t.Errorf("%d parts of %d: error %d at %d, %d Nodes; want error %d at %d, %d Nodes", c.parts, c.each, e, at, nodes(n), want, c.at, many)
		}
	}
}

// 19.1: what is told first, where more than one thing is wrong.
func TestReadFirst(t *testing.T) {
	// A Node ahead of what would be in it: one too many is told ahead of how many there are to be, and of what is missing.
	for _, item := range []string{"bytes x[0 - 1];", "u8 x[0 - 1];", "s x[0 - 9223372036854775807];", "bytes x[9223372036854775807];", "bytes x[1];", "i64be x;", "s x;"} {
		code, s := filled(api.MaxNodes, item)
		fails(t, code, "a", s, api.ErrLimit, len(s))
		code, s = filled(api.MaxNodes-1, item)
		if strings.HasPrefix(item, "s x;") {
			fails(t, code, "a", s, api.ErrLimit, len(s))
		} else {
			fails(t, code, "a", s, api.ErrForm, len(s))
		}
	}
	// Wherever it is read first.
	fails(t, "struct a { u16be n; bytes b[0 - 1]; }", "a", "\x00", api.ErrForm, 0)
	fails(t, "struct a { bytes b[0 - 1]; u16be n; }", "a", "\x00", api.ErrForm, 0)
	fails(t, "struct a { u8 n; bytes b[n]; bytes c[0 - 1]; }", "a", "\x02x", api.ErrForm, 1)
	fails(t, "struct a { u8 n; bytes b[n]; bytes c[0 - 1]; }", "a", "\x02xy", api.ErrForm, 3)
	fails(t, "struct e { } struct a { u8 n; e l[999]; bytes c[0 - 1]; }", "a", "\x02", api.ErrLimit, 1)
	fails(t, "struct e { } struct a { bytes c[0 - 1]; e l[999]; }", "a", "\x02", api.ErrForm, 0)
	fails(t, "struct e { } struct a { u16le c; e l[999]; }", "a", "\x02", api.ErrForm, 0)
	fails(t, "struct e { } struct a { e l[397]; u16le c; u8 d; }", "a", "\x02", api.ErrForm, 0)
	fails(t, "struct e { } struct a { e l[398]; u16le c; }", "a", "\x02", api.ErrLimit, 0)
	fails(t, "struct e { } struct a { u8 n; e l[999]; }", "a", "\x02xyz", api.ErrLimit, 1)
	// A list is read one by one, however many there are to be.
	fails(t, "struct a { u8 v[999]; }", "a", strings.Repeat("z", 397), api.ErrForm, 397)
	fails(t, "struct a { u8 v[999]; }", "a", strings.Repeat("z", 398), api.ErrLimit, 398)
	fails(t, "struct a { u8 v[999]; }", "a", strings.Repeat("z", 1000), api.ErrLimit, 398)
	fails(t, "struct a { u16le v[9]; }", "a", "z", api.ErrForm, 0)
}

// 19.1: a Count that asks for what isn't seen tells Eval's error (16.2), at the name in the template: Check (18.1) takes no such template.
func TestReadUnseen(t *testing.T) {
	for _, code := range []string{
		"struct a { bytes b[@n]; u8 n; }", "struct a { u8 v[@n]; }", "struct a { when @n { } }", "struct s { } struct a { s l[1 + (@m - n)]; }", "struct a { u8 n; bytes b[n * @m + k]; }",
		"struct a { when 1 { u8 n; } bytes b[@n]; }", "struct a { u8 k; when k { u8 n; when n { u8 m; } bytes b[n + @m]; } }", "struct a { u8 n[1]; bytes b[@n]; }", "struct a { bytes n[1]; bytes b[@n]; }", "struct s { u8 n; } struct a { s n; bytes b[@n]; }",
		"struct s { bytes b[@n]; } struct a { u8 n; s x; }", "struct a { when 0 { u8 n; } bytes b[@n]; }", "struct s { u8 n; } struct a { s l[1]; when @n { } }",
	} {
		where := strings.Index(code, "@")
		fails(t, strings.Replace(code, "@", "", 1), "a", "\x01\x01\x01\x01\x01", api.ErrName, where)
	}
	// What is missing ahead of it is told ahead of it; what isn't there asks for nothing.
	fails(t, "struct a { u16be k; bytes b[n]; }", "a", "\x01", api.ErrForm, 0)
	for _, item := range []string{"bytes b[n];", "u8 b[n];", "when n { }"} {
		code, s := filled(api.MaxNodes, item)
		fails(t, strings.Replace(code, "u16be n; u8 v[n];", "u16be k; u8 v[k];", 1), "a", s, api.ErrLimit, len(s))
	}
	n, err := Read(read(t, "struct a { u8 k; when k { bytes b[n]; } }"), "a", "\x00")
	if want := "a:struct@0+1(k:num@0+1=0 :when@1+0=0())"; err != nil || shape(n) != want {
		t.Errorf("Read = %s, %v; want %s", shape(n), err, want)
	}
}

// num, chars, part, when and many are Nodes as Write needs them: without places.
func num(name string, n int) api.Node {
	return api.Node{Name: name, Kind: api.Scalar, N: n}
}

func chars(name, text string) api.Node {
	return api.Node{Name: name, Kind: api.Bytes, Text: text}
}

func part(name string, kids ...api.Node) api.Node {
	return api.Node{Name: name, Kind: api.Struct, Kids: kids}
}

func when(n int, kids ...api.Node) api.Node {
	return api.Node{Kind: api.When, N: n, Kids: kids}
}

func many(name string, kids ...api.Node) api.Node {
	return api.Node{Name: name, Kind: api.List, Kids: kids}
}

// writes holds Write of a Node, as a template's last struct, against a text.
func writes(t *testing.T, code string, n api.Node, want string) {
	t.Helper()
	l := fitting(t, code)
	root := l[len(l)-1].Name
	if s, err := Write(l, root, n); err != nil || s != want {
		t.Errorf("Write of %.500s by %.500q = %.300q, %v; want %.300q", shape(n), code, s, err, want)
	}
	sameWritten(t, l, root, n)
}

// wrong holds that a Node is none of a template's last struct.
func wrong(t *testing.T, code string, all ...api.Node) {
	t.Helper()
	l := fitting(t, code)
	root := l[len(l)-1].Name
	for _, n := range all {
		s, err := Write(l, root, n)
		if e, at := place(err); e != api.ErrArg || at != -1 || s != "" {
			t.Errorf("Write of %.500s by %.500q = %.300q, error %d at %d; want error %d", shape(n), code, s, e, at, api.ErrArg)
		}
		sameWritten(t, l, root, n)
	}
}

// 19.2: each kind of number: the least and the greatest that its bytes tell, and one beyond each.
func TestWriteNumber(t *testing.T) {
	for _, c := range []struct {
		words string
		n     int
		want  string
	}{
		{"u8 i8", 0, "\x00"}, {"u8 i8", 1, "\x01"}, {"u8 i8", 127, "\x7f"}, {"u8", 128, "\x80"}, {"u8", 255, "\xff"}, {"i8", -1, "\xff"}, {"i8", -128, "\x80"},
		{"u16le i16le", 0x1234, "\x34\x12"}, {"u16be i16be", 0x1234, "\x12\x34"}, {"u16le u16be", 65535, "\xff\xff"}, {"i16le i16be", -1, "\xff\xff"}, {"i16le", -32768, "\x00\x80"}, {"i16be", -32768, "\x80\x00"}, {"i16le", 32767, "\xff\x7f"}, {"i16be", -2, "\xff\xfe"}, {"u16le", 32768, "\x00\x80"},
		{"u32le i32le", 0x12345678, "\x78\x56\x34\x12"}, {"u32be i32be", 0x12345678, "\x12\x34\x56\x78"}, {"u32le u32be", 1<<32 - 1, "\xff\xff\xff\xff"}, {"i32le", -1 << 31, "\x00\x00\x00\x80"}, {"i32be", 1<<31 - 1, "\x7f\xff\xff\xff"}, {"i32be", -2, "\xff\xff\xff\xfe"},
		{"i64le", math.MinInt64, "\x00\x00\x00\x00\x00\x00\x00\x80"}, {"i64be", math.MinInt64, "\x80\x00\x00\x00\x00\x00\x00\x00"}, {"i64le", math.MaxInt64, "\xff\xff\xff\xff\xff\xff\xff\x7f"}, {"i64be", math.MaxInt64, "\x7f\xff\xff\xff\xff\xff\xff\xff"}, {"i64le", 258, "\x02\x01\x00\x00\x00\x00\x00\x00"}, {"i64be", -2, "\xff\xff\xff\xff\xff\xff\xff\xfe"},
	} {
		for _, w := range strings.Fields(c.words) {
			writes(t, "struct a { "+w+" n; }", part("a", num("n", c.n)), c.want)
			writes(t, "struct a { u8 k; "+w+" n[3]; i8 m; }", part("a", num("k", 7), many("n", num("n", c.n), num("n", c.n)), num("m", -1)), "\x07"+c.want+c.want+"\xff")
			writes(t, "struct a { "+w+" n = size b; u8 b; }", part("a", num("n", c.n), num("b", 9)), c.want+"\x09")
		}
	}
	for _, w := range numbers {
		code := "struct a { u8 k; " + w.word + " n; " + w.word + " l[2]; when k { " + w.word + " m; } }"
		tree := func(n, one, m int) api.Node {
			return part("a", num("k", 1), num("n", n), many("l", num("l", 0), num("l", one)), when(1, num("m", m)))
		}
		fits := func(n int, fit bool) {
			for _, x := range []api.Node{tree(n, 0, 0), tree(0, n, 0), tree(0, 0, n)} {
				e := sameWritten(t, fitting(t, code), "a", x)
				if (e == api.OK) != fit {
					t.Errorf("Write of %d as %s: error %d", n, w.word, e)
				}
				if !fit {
					wrong(t, code, x)
				}
			}
		}
		least, most := 0, 1<<(8*w.width)-1
		if w.signed {
			least, most = -1<<(8*w.width-1), 1<<(8*w.width-1)-1
		}
		for _, n := range []int{least, least + 1, -1, 0, 1, 100, most - 1, most} {
			fits(n, w.signed || n >= 0)
		}
		if w.width < 8 {
			for _, n := range []int{least - 1, most + 1, least - 256, most + 256, math.MinInt64, math.MaxInt64, 1 << 32, -1 << 32, 1 << 62} {
				fits(n, false)
			}
		} else {
			fits(math.MinInt64, true)
			fits(math.MaxInt64, true)
		}
	}
}

// 19.2: no struct is called so: that is told ahead of all that is wrong with the tree.
func TestWriteMissing(t *testing.T) {
	for _, code := range []string{"", "struct a { }", "struct a { u8 n; } struct b { a x; }", "struct a { u8 c; when 1 { u8 e; } }"} {
		for _, root := range []string{"", "c", "A", "aa", "a ", "x", "struct"} {
			for _, n := range []api.Node{{}, part(root), part("a"), part(root, num("n", 1)), num(root, 1), {Name: root, Kind: -1}} {
				s, err := Write(fitting(t, code), root, n)
				if e, at := place(err); e != api.ErrMissing || at != -1 || s != "" {
					t.Errorf("Write of %s as %q of %q = %q, error %d at %d", shape(n), root, code, s, e, at)
				}
			}
		}
	}
}

// 19.2: Nodes, each a struct's, in order, by hand.
func TestWrite(t *testing.T) {
	writes(t, "struct a { }", part("a"), "")
	writes(t, "struct a { u8 n; bytes b[n]; u16be m; }", part("a", num("n", 2), chars("b", "xy"), num("m", 3)), "\x02xy\x00\x03")
	writes(t, "struct s { u8 n; bytes b[n]; } struct a { s x; u8 k; s y; }", part("a", part("x", num("n", 1), chars("b", "x")), num("k", 9), part("y", num("n", 0), chars("b", ""))), "\x01x\x09\x00")
	writes(t, "struct s1 { bytes b[1]; } struct s2 { s1 x; } struct s3 { s2 x; i8 n; }", part("s3", part("x", part("x", chars("b", "q"))), num("n", -3)), "q\xfd")
	writes(t, "struct s { u8 n; } struct a { s l[2]; u8 v[3]; }", part("a", many("l", part("l", num("n", 1)), part("l", num("n", 2))), many("v", num("v", 3), num("v", 4), num("v", 5))), "\x01\x02\x03\x04\x05")
	// The root that is asked for alone.
	l := fitting(t, "struct s { u8 n; } struct a { s n; }")
	for root, n := range map[string]api.Node{"s": part("s", num("n", 7)), "a": part("a", part("n", num("n", 7)))} {
		for _, other := range []string{"s", "a"} {
			s, err := Write(l, other, n)
			if other == root && (err != nil || s != "\x07") || other != root && (api.Tell(err) != api.ErrArg || s != "") {
				t.Errorf("Write of %s as %q: %q, %v", shape(n), other, s, err)
			}
		}
	}
	wrong(t, "struct a { }", api.Node{}, part(""), part("b"), part("A"), num("a", 0), chars("a", ""), many("a"), when(0), api.Node{Name: "a"}, api.Node{Name: "a", Kind: api.When}, part("a", num("n", 1)), part("a", api.Node{}), part("a", when(0)))
	wrong(t, "struct a { u8 n; }", part("a"), part("a", num("n", 1), num("n", 1)), part("a", num("m", 1)), part("a", num("", 1)), part("a", chars("n", "x")), part("a", many("n", num("n", 1))), part("a", part("n")), part("a", when(1)), part("a", part("a", num("n", 1))), part("a", num("n", 256)), part("a", num("n", -1)))
	wrong(t, "struct a { u8 n; bytes b[1]; }", part("a", chars("b", "x"), num("n", 1)), part("a", num("n", 1)), part("a", chars("b", "x")), part("a", num("n", 1), chars("b", "x"), chars("b", "x")), part("a", num("n", 1), num("b", 1)))
	// All that lies in it is looked at, whichever is wrong.
	wrong(t, "struct s { u8 n; } struct a { s x; s l[1]; u8 m; }", part("a", part("x", num("n", 256)), many("l"), num("m", 1)), part("a", part("x", num("n", 1)), many("l", part("l", num("n", -1))), num("m", 1)), part("a", part("x", num("n", 1)), many("l"), num("m", 300)))
}

// 19.2: whatever Count would come to doesn't matter.
func TestWriteCount(t *testing.T) {
	code := "struct a { u8 n; bytes b[n]; u8 v[n]; bytes c[0 - 1]; u8 w[2]; }"
	for _, n := range []int{0, 1, 2, 255} {
		for _, b := range []string{"", "x", "xy", strings.Repeat("z", 2*api.MaxBytes)} {
			for _, v := range [][]api.Node{nil, {}, {num("v", 1)}, {num("v", 1), num("v", 2), num("v", 3)}} {
				want := string([]byte{byte(n)}) + b + "\x01\x02\x03"[:len(v)] + b
				writes(t, code, part("a", num("n", n), chars("b", b), many("v", v...), chars("c", b), many("w")), want)
				writes(t, code, part("a", num("n", n), chars("b", b), many("v", v...), chars("c", ""), many("w", num("w", 9))), want[:len(want)-len(b)]+"\x09")
			}
		}
	}
	// More Nodes than could be read, and more bytes.
	kids := slices.Repeat([]api.Node{num("v", 7)}, 3*api.MaxNodes)
	writes(t, "struct a { u8 v[1]; }", part("a", many("v", kids...)), strings.Repeat("\x07", 3*api.MaxNodes))
	// A When is there, or not, by its N, whatever it hangs on.
	for _, c := range []string{"0", "1", "n", "n == 2", "0 - 1"} {
		code := "struct a { u8 n; when " + c + " { u8 k; } }"
		for n := range 3 {
			writes(t, code, part("a", num("n", n), when(0)), string([]byte{byte(n)}))
			writes(t, code, part("a", num("n", n), when(1, num("k", 9))), string([]byte{byte(n), 9}))
		}
	}
}

// 19.2: a When of N 0, and of others, with Kids and without.
func TestWriteWhen(t *testing.T) {
	code := "struct a { when 1 { u8 k; bytes b[k]; } u8 m; }"
	kids := []api.Node{num("k", 1), chars("b", "x")}
	writes(t, code, part("a", when(0), num("m", 2)), "\x02")
	wrong(t, code, part("a", when(0, kids...), num("m", 2)), part("a", when(0, kids[0]), num("m", 2)), part("a", when(0, api.Node{}), num("m", 2)))
	for _, n := range []int{1, 2, -1, 256, math.MinInt64, math.MaxInt64, 1 << 32} {
		writes(t, code, part("a", when(n, kids...), num("m", 2)), "\x01x\x02")
		wrong(t, code, part("a", when(n), num("m", 2)), part("a", when(n, kids[0]), num("m", 2)), part("a", when(n, kids[1]), num("m", 2)), part("a", when(n, kids[0], kids[1], kids[1]), num("m", 2)), part("a", when(n, kids[1], kids[0]), num("m", 2)), part("a", when(n, num("k", 256), kids[1]), num("m", 2)))
		writes(t, "struct a { when 0 { } }", part("a", when(n)), "")
		wrong(t, "struct a { when 0 { } }", part("a", when(n, when(0))))
		writes(t, "struct a { when 1 { when 1 { } u8 k; } }", part("a", when(n, when(n), num("k", 3))), "\x03")
		writes(t, "struct a { when 1 { when 1 { u8 j; } u8 k; } }", part("a", when(n, when(n, num("j", 2)), num("k", 3))), "\x02\x03")
		writes(t, "struct a { when 1 { when 1 { u8 j; } u8 k; } }", part("a", when(n, when(0), num("k", 3))), "\x03")
		wrong(t, "struct a { when 1 { when 1 { u8 j; } u8 k; } }", part("a", when(0, when(n, num("j", 2)), num("k", 3))), part("a", when(n, when(0, num("j", 2)), num("k", 3))), part("a", when(n, when(n), num("k", 3))))
	}
	writes(t, "struct a { when 0 { } }", part("a", when(0)), "")
	// It is called nothing.
	named := when(1, kids...)
	named.Name = "a"
	wrong(t, code, part("a", named, num("m", 2)))
	named.N, named.Kids = 0, nil
	wrong(t, code, part("a", named, num("m", 2)))
}

// 19.2: a list's Kids are all called as it is, and of its item's Kind.
func TestWriteMany(t *testing.T) {
	code := "struct s { u8 n; } struct a { u8 v[2]; s l[2]; }"
	good, other := many("v", num("v", 1), num("v", 2)), many("l", part("l", num("n", 3)))
	writes(t, code, part("a", good, other), "\x01\x02\x03")
	writes(t, code, part("a", many("v"), many("l")), "")
	for _, v := range []api.Node{num("v", 1), part("v"), many("w", num("v", 1)), many("", num("v", 1)), many("v", num("w", 1)), many("v", num("", 1)), many("v", num("v", 1), num("l", 1)), many("v", chars("v", "x")), many("v", num("v", 1), many("v")), many("v", part("v", num("n", 1))), many("v", num("v", 256)), many("v", api.Node{}), many("v", when(1)), chars("v", "x"), when(1)} {
		wrong(t, code, part("a", v, other))
	}
	for _, v := range []api.Node{part("l", num("n", 3)), many("v"), many("l", num("l", 3)), many("l", num("n", 3)), many("l", part("s", num("n", 3))), many("l", part("l")), many("l", part("l", num("n", 3), num("n", 4))), many("l", part("l", num("n", 3)), part("l", num("l", 3))), many("l", part("l", num("n", 3)), part("m", num("n", 3))), many("l", many("l", part("l", num("n", 3)))), many("l", chars("l", "x"))} {
		wrong(t, code, part("a", good, v))
	}
}

// copied is a Node that shares nothing with another one.
func copied(n api.Node) api.Node {
	var kids []api.Node
	for _, k := range n.Kids {
		kids = append(kids, copied(k))
	}
	n.Kids = kids
	return n
}

// nth is the Node of that number, itself the first one, its Kids behind it; nil: there is none.
func nth(n *api.Node, i *int) *api.Node {
	if *i == 0 {
		return n
	}
	for k := range n.Kids {
		*i--
		if x := nth(&n.Kids[k], i); x != nil {
			return x
		}
	}
	return nil
}

// bent is a copy of a Node, of which the Node of that number is bent.
func bent(n api.Node, i int, bend func(x *api.Node)) api.Node {
	n = copied(n)
	bend(nth(&n, &i))
	return n
}

// bends is all that may be bent of a Node, and its own item.
func bends() map[string]func(x *api.Node) {
	all := map[string]func(x *api.Node){
		"Name+":   func(x *api.Node) { x.Name += "x" },
		"Name-":   func(x *api.Node) { x.Name = x.Name[:max(0, len(x.Name)-1)] },
		"At":      func(x *api.Node) { x.At = -7 },
		"Size":    func(x *api.Node) { x.Size = math.MaxInt },
		"Text":    func(x *api.Node) { x.Text += "q" },
		"Text0":   func(x *api.Node) { x.Text = "" },
		"Kid-":    func(x *api.Node) { x.Kids = x.Kids[:max(0, len(x.Kids)-1)] },
		"Kid0":    func(x *api.Node) { x.Kids = nil },
		"Kid+":    func(x *api.Node) { x.Kids = append(x.Kids, api.Node{}) },
		"KidKid":  func(x *api.Node) { x.Kids = append(x.Kids, x.Kids...) },
		"KidLast": func(x *api.Node) { x.Kids = append(x.Kids, x.Kids[max(0, len(x.Kids)-1):]...) },
		"KidBack": func(x *api.Node) { slices.Reverse(x.Kids) },
	}
	for _, n := range []int{0, 1, -1, 255, 256, -128, -129, 65536, math.MinInt, math.MaxInt} {
		all["N"+strconv.Itoa(n)] = func(x *api.Node) { x.N = n }
	}
	for _, k := range []int{-1, 0, api.Scalar, api.Bytes, api.Struct, api.When, 5, api.List, 10} {
		all["Kind"+strconv.Itoa(k)] = func(x *api.Node) { x.Kind = k }
	}
	return all
}

// 19.2: each Node of a tree, at each depth, bent in each way: what matters is told, what doesn't leaves the text as it is.
func TestWriteBent(t *testing.T) {
	l := fitting(t, "struct r { bytes b[1]; } struct s { u8 n; bytes b[n]; r y; } struct a { i8 k; s x; u16be v[2]; s l[k]; when k { u8 m; when m == 0 { bytes c[1]; s d; } s y; u8 w[1]; } when k == 0 { u8 z; bytes f[2]; } bytes e[k]; }")
	s := "\x01\x01xr\x00\x01\x00\x02\x00r\x00c\x00r\x02yzr\x09e"
	good, e := same(t, l, "a", s)
	if e != api.OK {
		t.Fatalf("error %d", e)
	}
	for name, bend := range bends() {
		for i := range nodes(good) {
			j := i
			was := copied(*nth(&good, &j))
			n := bent(good, i, bend)
			j = i
			is := nth(&n, &j)
			got, err := Write(l, "a", n)
			e := sameWritten(t, l, "a", n)
			wrong := is.Name != was.Name || is.Kind != was.Kind
			if strings.HasPrefix(name, "Kid") && (was.Kind == api.Struct || was.Kind == api.When) {
				wrong = len(is.Kids) != len(was.Kids) || name == "KidBack" && len(is.Kids) > 1
			}
			if name == "Kid+" && was.Kind == api.List || was.Kind == api.When && was.N != 0 != (is.N != 0) {
				wrong = true
			}
			if was.Kind == api.Scalar && is.N != was.N {
				continue // TestWriteNumber tells of these
			}
			if wrong != (e == api.ErrArg) || !wrong && err != nil {
				t.Errorf("%s at Node %d: %s, behind %s: %q, %v", name, i, shape(*is), shape(was), got, err)
			}
			changes := was.Kind == api.Bytes && is.Text != was.Text || was.Kind == api.List && strings.HasPrefix(name, "Kid")
			if !wrong && !changes && got != s {
				t.Errorf("%s at Node %d: %s: %q", name, i, shape(*is), got)
			}
		}
	}
}

// 19.1, 19.2: all short texts of a few bytes, by templates of all sorts.
func TestAllShort(t *testing.T) {
	bytes := "\x00\x01\x02\x05\xff"
	texts := []string{""}
	for from, many := 0, 0; many < 5; many++ {
		to := len(texts)
		for _, s := range texts[from:to] {
			for i := range len(bytes) {
				texts = append(texts, s+bytes[i:i+1])
			}
		}
		from = to
	}
	parts := "struct e { } struct s { u8 n; bytes b[n]; } struct v { i8 n; i8 v[n]; } struct w { u8 k; when k > 1 { u8 m; s x; } } "
	for _, items := range []string{
		"", "u8 n;", "i16le n; u8 m;", "u16be n; bytes b[n - 255];", "u8 n; bytes b[n]; u8 m;", "i8 n; bytes b[n + 1];", "i8 n; u8 v[2 - n]; e x;", "u8 n; i8 m; bytes b[n * m]; bytes c[n + m];",
		"s x;", "s x; s y;", "s l[2];", "u8 n; s l[n];", "v x; s y;", "v l[2]; u8 n;", "u8 n; v l[n]; bytes c[n];", "w x; w y;", "u8 n; w l[n]; e m[n];", "u8 n; e l[n * 200]; u8 m;",
		"u8 n; when n { u8 m; bytes b[m]; } u8 k;", "i8 n; when n < 0 { u8 m; when m == 1 { bytes b[m - n]; } } when n > 0 { s x; }", "when 0 { u8 n; } when 1 { u8 m; when m { e x; v y[m]; } bytes b[m]; }",
		"u32le n; bytes b[n & 1];", "u8 n = size b; bytes b[n]; u8 m = count l; s l[m];", "u8 n; u8 v[n * n * 16]; bytes b[0 - (n == 5)];",
	} {
		l := fitting(t, parts+"struct a { "+items+" }")
		met := 0
		for _, s := range texts {
			n, e := same(t, l, "a", s)
			if e == api.OK {
				met++
				back(t, l, "a", s, n)
			}
		}
		if met == 0 {
			t.Errorf("no text is as %q has it", items)
		}
	}
}

// maker draws templates that fit together.
type maker struct {
	*drawn
	names int
	types []string // structs that were made
}

// name is a name that no other item has.
func (m *maker) name() string {
	m.names++
	return "x" + strconv.Itoa(m.names)
}

// count is an expression of the numbers that are seen.
func (m *maker) count(seen []string) string {
	if len(seen) == 0 || m.below(4) == 0 {
		return m.one("0", "1", "2", "3", "1", "2", "0 - 1")
	}
	a, b := m.one(seen...), m.one(seen...)
	return m.one(a, a+" & 3", a+" - 1", a+" == "+b, a+" > 1", "("+a+" | "+b+") & 1", a+" + 1", "2 * ("+b+" < 3)", a+" * "+b)
}

// items is the text of a few items.
func (m *maker) items(deep int, seen []string) string {
	s := ""
	for range m.below(5) {
		switch n := m.name(); m.below(8) {
		case 0:
			if deep > 0 {
				s += "when " + m.count(seen) + " { " + m.items(deep-1, slices.Clone(seen)) + "} "
			}
		case 1:
			s += "bytes " + n + "[" + m.count(seen) + "]; "
		case 2:
			s += m.one("u8", "i16be", "u16le", "i8") + " " + n + "[" + m.count(seen) + "]; "
		case 3:
			if len(m.types) > 0 {
				s += m.one(m.types...) + " " + n + "; "
			}
		case 4:
			if len(m.types) > 0 {
				s += m.one(m.types...) + " " + n + "[" + m.count(seen) + "]; "
			}
		default:
			s += m.one("u8", "u8", "u8", "i8", "u16be", "i16le", "i32be", "u32le", "i64le") + " " + n + "; "
			seen = append(seen, n)
		}
	}
	return s
}

// template is the text of a few structs.
func (m *maker) template() string {
	s := ""
	m.types = nil
	for _, name := range []string{"s", "t", "a"} {
		// Each struct has its names anew, so that those of others are met.
		m.names = 0
		s += "struct " + name + " { " + m.items(2, nil) + "} "
		m.types = append(m.types, name)
	}
	return s
}

// 19.1, 19.2: drawn templates, and texts that grow byte by byte until they are as these have them; what is read of them, bent at each Node.
func TestDrawn(t *testing.T) {
	d := drawn(1)
	m := &maker{drawn: &d}
	met := map[api.Errno]int{}
	metWrite := map[api.Errno]int{}
	all := bends()
	for range 3000 {
		code := m.template()
		l := fitting(t, code)
		s := ""
		for range 50 {
			n, e := same(t, l, "a", s)
			met[e]++
			if e == api.OK {
				back(t, l, "a", s, n)
				same(t, l, "a", s+"\x00")
				for i := range min(nodes(n), 30) {
					for range 3 {
						name := d.one("Name+", "Name-", "Kid-", "Kid0", "Kid+", "KidKid", "KidLast", "KidBack", "Text", "N0", "N1", "N-1", "N255", "N256", "N-129", "Kind1", "Kind9", "At", "Size")
						metWrite[sameWritten(t, l, "a", bent(n, i, all[name]))]++
					}
				}
				break
			}
			s += d.one("\x00", "\x01", "\x02", "\x03", "\x00", "a", "\xff")
		}
	}
	for _, e := range []api.Errno{api.OK, api.ErrForm, api.ErrLimit} {
		if met[e] < 100 {
			t.Errorf("Read: error %d is met %d times", e, met[e])
		}
	}
	for _, e := range []api.Errno{api.OK, api.ErrArg} {
		if metWrite[e] < 1000 {
			t.Errorf("Write: error %d is met %d times", e, metWrite[e])
		}
	}
}

// roomy is a copy of a Node, in which something stands behind the length of each list.
func roomy(n api.Node) api.Node {
	kids := make([]api.Node, 0, len(n.Kids)+1)
	for _, k := range n.Kids {
		kids = append(kids, roomy(k))
	}
	kids = append(kids, num("behind", 7))
	n.Kids = kids[:len(kids)-1]
	return n
}

// untouched: does it still stand there, of all lists?
func untouched(n api.Node) bool {
	if behind := n.Kids[:len(n.Kids)+1][len(n.Kids)]; !reflect.DeepEqual(behind, num("behind", 7)) {
		return false
	}
	for _, k := range n.Kids {
		if !untouched(k) {
			return false
		}
	}
	return true
}

// spoil writes into all lists of a Node, and behind them.
func spoil(n api.Node) {
	for i := range n.Kids {
		spoil(n.Kids[i])
		n.Kids[i] = num("spoilt", -1)
	}
	_ = append(n.Kids, num("behind", -1), num("behind", -1))
}

// P4: the same is told each time; nothing that is handed in is written into, nor what stands behind it; what was told is the caller's, and no two lists of it share anything.
func TestAgain(t *testing.T) {
	code := "struct s { u8 n; bytes b[n]; u8 v[2]; } struct a { u8 n; s x; s l[n]; when n { u8 w[n]; when n { s y; } } bytes c[n]; }"
	s := "\x02\x01x\x01\x02\x00\x03\x04\x00\x05\x06\x07\x08\x00\x09\x0acd"
	l, want := fitting(t, code), fitting(t, code)
	l = slices.Grow(l, 1)
	first, err := Read(l, "a", s)
	if err != nil {
		t.Fatal(err)
	}
	told := shape(first)
	for range 3 {
		n, err := Read(l, "a", s)
		if err != nil || shape(n) != told {
			t.Errorf("Read = %s, %v; at first %s", shape(n), err, told)
		}
		spoil(n)
		if !reflect.DeepEqual(l, want) || !reflect.DeepEqual(l[:3][2], api.Type{}) {
			t.Error("Read writes into templates, or tells something of theirs")
		}
		fails(t, code, "a", s+"z", api.ErrForm, len(s))
	}
	if shape(first) != told {
		t.Errorf("what was told is %s, behind what was made of what was told later", shape(first))
	}
	// Behind each list something is put; no other one has it.
	for i := range nodes(first) {
		j := i
		x := nth(&first, &j)
		_ = append(x.Kids, num("behind", -1), num("behind", -1))
		if cap(x.Kids) > len(x.Kids) {
			_ = append(x.Kids, num("behind", -1))
		}
		if shape(first) != told {
			t.Fatalf("lists of one answer share something: %s, at first %s", shape(first), told)
		}
	}
	for range 2 {
		n := roomy(first)
		if made, err := Write(l, "a", n); err != nil || made != s {
			t.Errorf("Write = %q, %v; want %q", made, err, s)
		}
		n.Kids[len(n.Kids)-1].Name = "z"
		if made, err := Write(l, "a", n); api.Tell(err) != api.ErrArg || made != "" {
			t.Errorf("Write of what is none of its: %q, %v", made, err)
		}
		n.Kids[len(n.Kids)-1].Name = "c"
		if !untouched(n) || shape(n) != told || !reflect.DeepEqual(l, want) {
			t.Error("Write writes into what it is handed")
		}
	}
}

// P4: places in templates don't matter.
func TestPlaces(t *testing.T) {
	plain := "struct s { u8 n; bytes b[n]; } struct a { u8 k; when k { s x[k]; } }"
	for _, code := range []string{strings.ReplaceAll(plain, " ", "\n  "), "# all\n" + plain, tmpl.Print(read(t, plain))} {
		for _, s := range []string{"", "\x00", "\x01\x02xy", "\x01\x02x", "\x02\x00\x00\x00", "\xff"} {
			n, err := Read(fitting(t, plain), "a", s)
			m, fault := Read(fitting(t, code), "a", s)
			if !reflect.DeepEqual(n, m) || !reflect.DeepEqual(err, fault) {
				t.Errorf("Read of %q by %q: %s, %v; want %s, %v", s, code, shape(m), fault, shape(n), err)
			}
		}
	}
}

// ends calls Read and Write of whatever there is: they end, and don't panic; with an error nothing else is told.
func ends(t *testing.T, l []api.Type, root, s string, n api.Node) {
	t.Helper()
	if m, err := Read(l, root, s); err != nil && !reflect.DeepEqual(m, api.Node{}) {
		t.Errorf("Read: %s, %v", shape(m), err)
	}
	if made, err := Write(l, root, n); err != nil && made != "" {
		t.Errorf("Write: %q, %v", made, err)
	}
}

// P1: templates that Check doesn't take, and that Parse never tells; trees of all sorts.
func TestOdd(t *testing.T) {
	deep := api.Node{}
	for range 3000 {
		deep = part("x", deep)
	}
	deep.Name = "a"
	trees := []api.Node{{}, deep, part("a"), part("a", deep), part("a", num("n", 1)), part("a", many("n", num("n", -1))), part("a", when(1, when(1, api.Node{}))), {Name: "a", Kind: -1}}
	for _, code := range []string{
		"struct a { a x; }", "struct a { u8 n; a x[n]; }", "struct a { a x[2]; }", "struct a { when 1 { a x; } }", "struct a { b x; } struct b { a x; }", "struct a { b x; }", "struct a { u8 n; b x[n]; }",
		"struct a { } struct a { u8 n; }", "struct a { u8 n; u8 n; bytes n[n]; }", "struct a { bytes b[n]; }", "struct a { u8 n[n]; when n { } }", "struct a { u8 n = count m; u32le c = check c d; }",
	} {
		for _, n := range trees {
			for _, s := range []string{"", "\x00", "\x01\x01", "\x02\x03\x04\x05", strings.Repeat("\x01", 500)} {
				ends(t, read(t, code), "a", s, n)
			}
		}
	}
	fails(t, "struct a { a x; }", "a", "", api.ErrLimit, 0)
	fails(t, "struct a { u8 n; a x[n]; }", "a", strings.Repeat("\x01", 500), api.ErrLimit, 133)
	odd := []int{math.MinInt, -1, 0, 1, 2, 3, 4, 5, 8, 9, 64, math.MaxInt}
	for _, k := range odd {
		for _, w := range odd {
			for _, x := range []api.Item{{Kind: k, Name: "n", Width: w}, {Kind: k, Name: "n", Width: w, Order: -1, Signed: true}, {Kind: k, Name: "n", Type: "a", Many: true, Width: w}, {Kind: k, Count: &api.Expr{Code: api.Num, N: w}, Width: 1}, {Kind: k, Name: "n", Many: true, Count: &api.Expr{Code: w, N: w}, Width: 8}, {Kind: k, Many: true, Width: 4, Order: w, Count: &api.Expr{Code: api.Num, N: 2}}} {
				l := []api.Type{{Name: "a", Items: []api.Item{x, {Kind: api.When, Count: &api.Expr{Code: api.Num, N: w}, Items: []api.Item{x}}}}}
				for _, n := range append(trees, part("a", api.Node{Name: "n", Kind: k, N: w}, when(0)), part("a", many("n", api.Node{Name: "n", Kind: k, N: w}), when(1, api.Node{Name: "n", Kind: k, N: w}))) {
					ends(t, l, "a", "\x01\x02\x03", n)
					ends(t, l, "", "", n)
				}
			}
		}
	}
}
