package fix

import (
	"encoding/binary"
	"errors"
	"fmt"
	"hash/crc32"
	"math"
	"reflect"
	"slices"
	"strconv"
	"strings"
	"testing"

	"escritoire/api"
	"escritoire/layout"
	"escritoire/sums"
	"escritoire/tmpl"
	"escritoire/types"
)

// drawn is numbers that look drawn, the same each time.
type drawn uint64

func (d *drawn) below(most int) int {
	*d = *d*6364136223846793005 + 1442695040888963407
	return int(uint64(*d>>33) % uint64(most))
}

// one is one of several texts.
func (d *drawn) one(l ...string) string {
	return l[d.below(len(l))]
}

// read is a text's structs, whether they fit together or not.
func read(t *testing.T, s string) []api.Type {
	t.Helper()
	l, err := tmpl.Parse(s)
	if err != nil {
		t.Fatalf("Parse(%.300q): %v", s, err)
	}
	return l
}

// fitting is a text's structs, which fit together, and the last one's name.
func fitting(t *testing.T, s string) ([]api.Type, string) {
	t.Helper()
	l := read(t, s)
	if err := types.Check(l); err != nil {
		t.Fatalf("Check of %.300q: %v", s, err)
	}
	return l, l[len(l)-1].Name
}

// spot is an error's Errno, and the place that it has; -1, if it has none.
func spot(err error) (api.Errno, int) {
	var a *api.At
	if errors.As(err, &a) {
		return api.Tell(err), a.Place
	}
	return api.Tell(err), -1
}

// num, chars, group, when, and many are Nodes.
func num(name string, n int) api.Node {
	return api.Node{Name: name, Kind: api.Scalar, N: n}
}

func chars(name, text string) api.Node {
	return api.Node{Name: name, Kind: api.Bytes, Text: text}
}

func group(name string, kids ...api.Node) api.Node {
	return api.Node{Name: name, Kind: api.Struct, Kids: kids}
}

func when(n int, kids ...api.Node) api.Node {
	return api.Node{Kind: api.When, N: n, Kids: kids}
}

func many(name string, kids ...api.Node) api.Node {
	return api.Node{Name: name, Kind: api.List, Kids: kids}
}

// le and be are the sum of a text, as its bytes.
func le(s string) string {
	return string(binary.LittleEndian.AppendUint32(nil, crc32.ChecksumIEEE([]byte(s))))
}

func be(s string) string {
	return string(binary.BigEndian.AppendUint32(nil, crc32.ChecksumIEEE([]byte(s))))
}

// shape is all of a Node, as a text.
func shape(n api.Node) string {
	return fmt.Sprintf("%+v", n)
}

// alike: is all of two Nodes the same, places and sizes, too?
func alike(a, b api.Node) bool {
	return a.Name == b.Name && a.Kind == b.Kind && a.At == b.At && a.Size == b.Size && a.N == b.N && a.Text == b.Text && slices.EqualFunc(a.Kids, b.Kids, alike)
}

// fresh is a Node that shares nothing with another one.
func fresh(n api.Node) api.Node {
	var kids []api.Node
	for _, k := range n.Kids {
		kids = append(kids, fresh(k))
	}
	n.Kids = kids
	return n
}

// paths is the ways to all nodes in a node.
func paths(n api.Node) [][]int {
	var l [][]int
	for i, k := range n.Kids {
		l = append(l, []int{i})
		for _, p := range paths(k) {
			l = append(l, append([]int{i}, p...))
		}
	}
	return l
}

// at is the node at the end of a path, if there is one.
func at(n api.Node, path []int) (api.Node, bool) {
	for _, i := range path {
		if i < 0 || i >= len(n.Kids) {
			return api.Node{}, false
		}
		n = n.Kids[i]
	}
	return n, true
}

// holdsFix holds what Fix makes of a tree against what is told another way.
func holdsFix(t *testing.T, l []api.Type, root string, n api.Node) api.Errno {
	t.Helper()
	m, err := Fix(l, root, n)
	e, at := spot(err)
	want, _, wrong := fixTold(l, root, n)
	if e != wrong || at != -1 || !alike(m, want) {
		t.Errorf("Fix of %.700s by %.500q: %.700s, error %d at %d; want %.700s, error %d", shape(n), tmpl.Print(l), shape(m), e, at, shape(want), wrong)
	}
	return e
}

// holds holds what is told of a text, and what is made of it, against what is told another way; the Errno of Done.
func holds(t *testing.T, l []api.Type, root, s string) api.Errno {
	t.Helper()
	ok, err := Right(l, root, s)
	e, at := spot(err)
	wantOk, wrong, where := rightTold(l, root, s)
	if ok != wantOk || e != wrong || at != where {
		t.Errorf("Right of %.100q by %.500q: %v, error %d at %d; want %v, error %d at %d", s, tmpl.Print(l), ok, e, at, wantOk, wrong, where)
	}
	done, err := Done(l, root, s)
	e, at = spot(err)
	want := ""
	if wrong == api.OK {
		n, _ := layout.Read(l, root, s)
		holdsFix(t, l, root, n)
		want, wrong = finishTold(l, root, n)
	}
	if line(done, e, at) != line(want, wrong, where) {
		t.Errorf("Done of %.100q by %.500q: %s; want %s", s, tmpl.Print(l), line(done, e, at), line(want, wrong, where))
	}
	if e != api.OK {
		return e
	}
	if ok, err := Right(l, root, done); !ok || err != nil {
		t.Errorf("Right of %.100q, made of %.100q: %v, %v", done, s, ok, err)
	}
	if again, err := Done(l, root, done); again != done || err != nil {
		t.Errorf("Done of %.100q, made of %.100q: %.100q, %v", done, s, again, err)
	}
	if ok && done != s {
		t.Errorf("Done of %.100q, which is right: %.100q", s, done)
	}
	return e
}

// kinds of edits, and what each makes of a text, in two ways.
func edits() map[string]func(l []api.Type, root, s string, path []int, v int, text string) (a, b string) {
	both := func(s string, err error, want string, wrong api.Errno, where int) (string, string) {
		e, at := spot(err)
		return line(s, e, at), line(want, wrong, where)
	}
	return map[string]func(l []api.Type, root, s string, path []int, v int, text string) (a, b string){
		"Set": func(l []api.Type, root, s string, path []int, v int, text string) (string, string) {
			a, err := Set(l, root, s, path, v)
			b, e, at := setTold(l, root, s, path, v)
			return both(a, err, b, e, at)
		},
		"Fill": func(l []api.Type, root, s string, path []int, v int, text string) (string, string) {
			a, err := Fill(l, root, s, path, text)
			b, e, at := fillTold(l, root, s, path, text)
			return both(a, err, b, e, at)
		},
		"Double": func(l []api.Type, root, s string, path []int, v int, text string) (string, string) {
			a, err := Double(l, root, s, path)
			b, e, at := timesTold(l, root, s, path, 2)
			return both(a, err, b, e, at)
		},
		"Drop": func(l []api.Type, root, s string, path []int, v int, text string) (string, string) {
			a, err := Drop(l, root, s, path)
			b, e, at := timesTold(l, root, s, path, 0)
			return both(a, err, b, e, at)
		},
	}
}

// holdsEdits holds what each edit of a part makes of a text against what is told another way.
func holdsEdits(t *testing.T, l []api.Type, root, s string, path []int, v int, text string, met map[string]int) {
	t.Helper()
	for name, do := range edits() {
		a, b := do(l, root, s, path, v, text)
		if a != b {
			t.Errorf("%s of %v of %.100q by %.500q (%d, %.100q): %s; want %s", name, path, s, tmpl.Print(l), v, text, a, b)
		}
		met[name+a[strings.LastIndex(a, ","):]]++
	}
}

// fixes holds that a text, by a template's last struct, is made another one; which is right, while the first one isn't, and the only one that is made of itself.
func fixes(t *testing.T, code, s, want string) {
	t.Helper()
	l, root := fitting(t, code)
	n, err := layout.Read(l, root, s)
	if err != nil {
		t.Fatalf("Read of %.100q by %.500q: %v", s, code, err)
	}
	m, err := Fix(l, root, n)
	made, fault := layout.Write(l, root, m)
	if err != nil || fault != nil || made != want {
		t.Errorf("Fix of %.100q by %.500q: %.100q, %v, %v; want %.100q", s, code, made, err, fault, want)
	}
	if ok, err := Right(l, root, s); ok != (s == want) || err != nil {
		t.Errorf("Right of %.100q by %.500q: %v, %v", s, code, ok, err)
	}
	if Same(n, m) != (s == want) {
		t.Errorf("Same of %.100q and %.100q by %.500q: %v", s, want, code, Same(n, m))
	}
	if holds(t, l, root, s) == api.OK {
		if done, _ := Done(l, root, s); done != want {
			t.Errorf("Done of %.100q by %.500q: %.100q; want %.100q", s, code, done, want)
		}
	}
}

// fails holds Right, Done and all edits of a text against the error, and its place, that Read tells.
func fails(t *testing.T, code, root, s string, want api.Errno, where int) {
	t.Helper()
	l := read(t, code)
	ok, err := Right(l, root, s)
	if e, at := spot(err); ok || e != want || at != where {
		t.Errorf("Right of %.100q as %q of %.500q: %v, error %d at %d; want error %d at %d", s, root, code, ok, e, at, want, where)
	}
	done, err := Done(l, root, s)
	if e, at := spot(err); done != "" || e != want || at != where {
		t.Errorf("Done of %.100q as %q of %.500q: %.100q, error %d at %d; want error %d at %d", s, root, code, done, e, at, want, where)
	}
	for _, path := range [][]int{nil, {0}, {-1}, {9, 9}} {
		edit(t, code, root, s, path, all(0, "x"), "", want, where)
	}
}

// doing is an edit: Set to a number, Fill with a text, Double, or Drop.
type doing struct {
	what string
	v    int
	text string
}

func set(v int) []doing           { return []doing{{"Set", v, ""}} }
func fill(text string) []doing    { return []doing{{"Fill", 0, text}} }
func double() []doing             { return []doing{{"Double", 0, ""}} }
func drop() []doing               { return []doing{{"Drop", 0, ""}} }
func all(v int, s string) []doing { return slices.Concat(set(v), fill(s), double(), drop()) }
func (d doing) String() string    { return fmt.Sprintf("%s %d %.100q", d.what, d.v, d.text) }
func (d doing) to(l []api.Type, root, s string, path []int) (string, error) {
	switch d.what {
	case "Set":
		return Set(l, root, s, path, d.v)
	case "Fill":
		return Fill(l, root, s, path, d.text)
	case "Double":
		return Double(l, root, s, path)
	}
	return Drop(l, root, s, path)
}

// edit holds edits of a text against what they must make of it, or the error that they must tell, with its place.
func edit(t *testing.T, code, root, s string, path []int, do []doing, want string, wrong api.Errno, where int) {
	t.Helper()
	l := read(t, code)
	for _, d := range do {
		made, err := d.to(l, root, s, path)
		if e, at := spot(err); made != want || e != wrong || at != where {
			t.Errorf("%v of %v of %.100q as %q of %.500q: %.100q, error %d at %d; want %.100q, error %d at %d", d, path, s, root, code, made, e, at, want, wrong, where)
		}
	}
}

// makes holds that an edit makes another text of one, by a template's last struct.
func makes(t *testing.T, code, s string, path []int, do []doing, want string) {
	t.Helper()
	l, root := fitting(t, code)
	edit(t, code, root, s, path, do, want, api.OK, -1)
	if ok, err := Right(l, root, want); !ok || err != nil {
		t.Errorf("Right of %.100q by %.500q: %v, %v", want, code, ok, err)
	}
}

// refuses holds that an edit of a text, by a template's last struct, tells an error without a place.
func refuses(t *testing.T, code, s string, path []int, do []doing, want api.Errno) {
	t.Helper()
	_, root := fitting(t, code)
	edit(t, code, root, s, path, do, "", want, -1)
}

// 20.1: a Size is how many bytes First has, of whatever kind it is, wherever it stands.
func TestFixSize(t *testing.T) {
	pair := "struct s { u8 n; bytes b[n]; } struct e { } struct w { u8 k; when k { u16le m; when m { u8 x; } } } "
	for _, c := range []struct{ items, s, want string }{
		{"u8 n = size b; bytes b[3];", "\x00abc", "\x03abc"},
		{"u8 n = size b; bytes b[3];", "\x03abc", "\x03abc"},
		{"u8 n = size b; bytes b[3];", "\xffabc", "\x03abc"},
		{"u8 n = size b; bytes b[n];", "\x02ab", "\x02ab"},
		{"u8 n = size b; bytes b[0];", "\x05", "\x00"},
		{"bytes b[3]; u8 n = size b;", "abc\x00", "abc\x03"},
		{"u16be n = size b; u8 k; bytes b[k];", "\xff\xff\x01x", "\x00\x01\x01x"},
		{"u8 n = size v; u32be v;", "\x00abcd", "\x04abcd"},
		{"i16le n = size v; i64le v;", "\xff\xff12345678", "\x08\x0012345678"},
		{"u8 n = size v; u8 v;", "\x00\x00", "\x01\x00"},
		{"u8 n = size v; u16le v[2];", "\x00abcd", "\x04abcd"},
		{"u8 n = size v; u16le v[0];", "\x09", "\x00"},
		{"u8 n = size x; s x;", "\x00\x02ab", "\x03\x02ab"},
		{"u8 n = size x; s x; u8 z;", "\x00\x00z", "\x01\x00z"},
		{"u8 n = size x; e x;", "\x07", "\x00"},
		{"u8 n = size l; s l[3];", "\x00\x02ab\x00\x01c", "\x06\x02ab\x00\x01c"},
		{"u8 n = size l; e l[3];", "\x01", "\x00"},
		{"u8 n = size x; w x;", "\x00\x00", "\x01\x00"},
		{"u8 n = size x; w x;", "\x00\x01\x00\x00", "\x03\x01\x00\x00"},
		{"u8 n = size x; w x;", "\x00\x01\x00\x01!", "\x04\x01\x00\x01!"},
		{"u8 n = size m; u16be m = size n;", "\x00\x00\x00", "\x02\x00\x01"},
		{"u8 n = size b; u8 m = size b; bytes b[2]; u8 k = size b;", "\x00\x02ab\x05", "\x02\x02ab\x02"},
		{"u8 n = size c; u32le c = check n;", "\x00abcd", "\x04" + le("\x04")},
		{"i32be n = size b; bytes b[2];", "\x80\x00\x00\x00ab", "\x00\x00\x00\x02ab"},
		{"i64be n = size b; bytes b[2];", "\x80\x00\x00\x00\x00\x00\x00\x00ab", "\x00\x00\x00\x00\x00\x00\x00\x02ab"},
		{"i64le n = size b; bytes b[2];", "\xff\xff\xff\xff\xff\xff\xff\x7fab", "\x02\x00\x00\x00\x00\x00\x00\x00ab"},
	} {
		fixes(t, pair+"struct a { "+c.items+" }", c.s, c.want)
	}
}

// 20.1: a Count is how many Kids First has.
func TestFixCount(t *testing.T) {
	pair := "struct s { u8 n; bytes b[n]; } struct e { } "
	for _, c := range []struct{ items, s, want string }{
		{"u8 n = count v; u8 v[3];", "\x00abc", "\x03abc"},
		{"u8 n = count v; u8 v[n];", "\x03abc", "\x03abc"},
		{"u8 n = count v; u8 v[0];", "\x03", "\x00"},
		{"u8 v[2]; u8 n = count v;", "ab\x00", "ab\x02"},
		{"u16be n = count v; u32le v[2];", "\x00\x0012345678", "\x00\x0212345678"},
		{"u16le n = count l; s l[2];", "\x09\x09\x02ab\x00", "\x02\x00\x02ab\x00"},
		{"i8 n = count l; e l[7];", "\xff", "\x07"},
		{"u8 n = count l; u8 m = size l; s l[2]; u8 k = count l;", "\x00\x00\x01a\x01b\x00", "\x02\x04\x01a\x01b\x02"},
		{"u8 n = count v; u8 m = count w; u8 v[1]; u8 w[2];", "\x02\x01abc", "\x01\x02abc"},
	} {
		fixes(t, pair+"struct a { "+c.items+" }", c.s, c.want)
	}
}

// 20.1: a Check is the Crc of the bytes from First to Last.
func TestFixCheck(t *testing.T) {
	pair := "struct s { u8 n; bytes b[n]; } struct e { } "
	for _, c := range []struct{ items, s, want string }{
		{"u32le c = check b; bytes b[9];", "\x00\x00\x00\x00123456789", "\x26\x39\xf4\xcb123456789"},
		{"u32be c = check b; bytes b[9];", "\x00\x00\x00\x00123456789", "\xcb\xf4\x39\x26123456789"},
		{"bytes b[9]; u32be c = check b b;", "123456789abcd", "123456789\xcb\xf4\x39\x26"},
		{"u32be c = check b; bytes b[0];", "abcd", "\x00\x00\x00\x00"},
		{"u32be c = check x; e x;", "abcd", "\x00\x00\x00\x00"},
		{"u8 n; u32le c = check v; i16be v; u8 m;", "n0123abm", "n" + le("ab") + "abm"},
		{"u8 x; u8 y; u8 z; u32le c = check x z;", "xyz1234", "xyz" + le("xyz")},
		{"u8 x; u8 y; u8 z; u32le c = check x y;", "xyz1234", "xyz" + le("xy")},
		{"u8 x; u8 y; u8 z; u32le c = check y z;", "xyz1234", "xyz" + le("yz")},
		{"u8 x; u8 y; u8 z; u32le c = check y;", "xyz1234", "xyz" + le("y")},
		{"u32le c = check x l; s x; u16le v[2]; s l[2];", "1234\x01aVVVV\x00\x02yz", le("\x01aVVVV\x00\x02yz") + "\x01aVVVV\x00\x02yz"},
		{"u8 x; when x { u8 y; } u8 z; u32le c = check x z;", "\x00z1234", "\x00z" + le("\x00z")},
		{"u8 x; when x { u8 y; } u8 z; u32le c = check x z;", "\x01yz1234", "\x01yz" + le("\x01yz")},
		{"u8 n = size b; bytes b[2]; u8 m = count v; u8 v[1]; u32le c = check n v;", "\x00ab\x00v1234", "\x02ab\x01v" + le("\x02ab\x01v")},
		{"u32le c = check n v; u8 n = size b; bytes b[2]; u8 m = count v; u8 v[1];", "1234\x00ab\x00v", le("\x02ab\x01v") + "\x02ab\x01v"},
		{"u32le c = check n; u8 n = size c;", "1234\x00", le("\x04") + "\x04"},
		// A sum over a sum, over a sum, in the items' order, and against it.
		{"bytes b[1]; u32le c = check b; u32be d = check c; u32le e = check b d;", "b...........1", "b" + le("b") + be(le("b")) + le("b"+le("b")+be(le("b")))},
		{"u32le e = check d b; u32be d = check c; u32le c = check b; bytes b[1];", "............b", le(be(le("b"))+le("b")+"b") + be(le("b")) + le("b") + "b"},
		{"u32le d = check e; u32le c = check b; u32be e = check c; bytes b[1];", "............b", le(be(le("b"))) + le("b") + be(le("b")) + "b"},
		{"u32le c = check d; u8 k = size c; u32be d = check e f; u8 e = count v; u8 f = size v; u8 v[2]; u32le g = check c d;", "1234\x001234\x00\x00vv1234", le(be("\x02\x02")) + "\x04" + be("\x02\x02") + "\x02\x02vv" + le(le(be("\x02\x02"))+"\x04"+be("\x02\x02"))},
	} {
		fixes(t, pair+"struct a { "+c.items+" }", c.s, c.want)
	}
}

// 20.1, 5.1: any sum there is, the least and the greatest one, is told by the bytes of a Check.
func TestFixSum(t *testing.T) {
	sum := api.Sum{Width: 32, Poly: 0x04c11db7, Turned: true, Init: 0xffffffff, Out: 0xffffffff}
	for _, want := range []uint32{0, 1, 1<<31 - 1, 1 << 31, 1<<32 - 1} {
		b, err := sums.Force(sum, "", 0, want)
		if err != nil || len(b) != 4 {
			t.Fatalf("Force: %q, %v", b, err)
		}
		fixes(t, "struct a { u32be c = check b; bytes b[4]; }", "abcd"+b, string(binary.BigEndian.AppendUint32(nil, want))+b)
		fixes(t, "struct a { u32le c = check b; bytes b[4]; }", "abcd"+b, string(binary.LittleEndian.AppendUint32(nil, want))+b)
	}
}

// 20.1: rules are done in structs in others, in lists' structs, and in a When of N 1, ahead of what hangs on them; in a When of N 0 there are none.
func TestFixWithin(t *testing.T) {
	pair := "struct s { u8 n = size b; bytes b[n & 3]; } struct p { u8 k = size x; s x; u32le c = check x; } struct q { u8 m = count l; p l[m & 3]; u8 z = size l; } "
	x := "\x02ab"                // an s
	p := "\x03" + x + le(x)      // a p
	q := "\x02" + p + p + "\x10" // a q
	wrongX := "\x82ab"           // an s, whose number isn't right
	wrongP := "\x00" + wrongX + "1234"
	wrongQ := "\x42" + wrongP + wrongP + "\x00"
	for _, c := range []struct{ items, s, want string }{
		{"s x;", wrongX, x}, {"p x;", wrongP, p}, {"q x;", wrongQ, q},
		{"q x; u8 n = size x; u32be c = check x n; s y;", wrongQ + "\x00" + "1234" + wrongX, q + "\x12" + be(q+"\x12") + x},
		{"u32be c = check n y; u8 n = size y; q x; s y;", "1234\x00" + wrongQ + wrongX, be("\x03"+q+x) + "\x03" + q + x},
		{"s l[2]; u8 n = size l;", wrongX + "\xfcn", x + "\x00\x04"},
		{"u8 n; when n { s x; u8 m = size x; } u8 k;", "\x01" + wrongX + "\x00k", "\x01" + x + "\x03k"},
		{"u8 n; when n { s x; u8 m = size x; } u8 k;", "\x00k", "\x00k"},
		{"u8 n; when n { u8 m; when m { s x; u8 k = size x; } when m == 0 { p x2; } } u32le c = check n;", "\x01\x01" + wrongX + "\x001234", "\x01\x01" + x + "\x03" + le("\x01")},
		{"u8 n; when n { u8 m; when m { s x; u8 k = size x; } when m == 0 { p x2; } } u32le c = check n;", "\x01\x00" + wrongP + "1234", "\x01\x00" + p + le("\x01")},
		{"u8 n = size l; q l[2]; u8 m = count l;", "\x00" + wrongQ + wrongQ + "\x00", "\x24" + q + q + "\x02"},
		{"u8 f; when 1 { u8 n = size x; when 1 { p x3; } s x; u32le c = check n x; } u8 g; u32le d = check f g;", "f\x00" + wrongP + wrongX + "1234g1234", "f\x03" + p + x + le("\x03"+p+x) + "g" + le("f\x03"+p+x+le("\x03"+p+x)+"g")},
	} {
		fixes(t, pair+"struct a { "+c.items+" }", c.s, c.want)
	}
}

// 20.1: items of one block hang on those of that very block, though others are called alike.
func TestFixAlike(t *testing.T) {
	code := "struct s { u8 n = size b; bytes b[1]; } struct b { bytes b[2]; u8 n = size b; s s; } struct a { u8 n = size b; s s; bytes c[1]; b b; }"
	fixes(t, code, "\x00"+"\x09s"+"c"+"bb\x09\x09s", "\x05"+"\x01s"+"c"+"bb\x02\x01s")
}

// numbers is the words of numbers, and the least and the greatest number of each.
var numbers = []struct {
	word        string
	least, most int
}{
	{"u8", 0, 1<<8 - 1}, {"i8", -1 << 7, 1<<7 - 1},
	{"u16le", 0, 1<<16 - 1}, {"u16be", 0, 1<<16 - 1}, {"i16le", -1 << 15, 1<<15 - 1}, {"i16be", -1 << 15, 1<<15 - 1},
	{"u32le", 0, 1<<32 - 1}, {"u32be", 0, 1<<32 - 1}, {"i32le", -1 << 31, 1<<31 - 1}, {"i32be", -1 << 31, 1<<31 - 1},
	{"i64le", math.MinInt64, math.MaxInt64}, {"i64be", math.MinInt64, math.MaxInt64},
}

// treeFixes holds what Fix makes of a tree, by a template's last struct, against what it must make.
func treeFixes(t *testing.T, code string, n, want api.Node) {
	t.Helper()
	l, root := fitting(t, code)
	m, err := Fix(l, root, n)
	if err != nil || !alike(m, want) {
		t.Errorf("Fix of %.700s by %.500q: %.700s, %v; want %.700s", shape(n), code, shape(m), err, shape(want))
	}
	holdsFix(t, l, root, n)
}

// treeFails holds Fix of a tree, by a template's last struct, against the error that it must tell.
func treeFails(t *testing.T, code string, n api.Node, want api.Errno) {
	t.Helper()
	l, root := fitting(t, code)
	m, err := Fix(l, root, n)
	if e, at := spot(err); e != want || at != -1 || !reflect.DeepEqual(m, api.Node{}) {
		t.Errorf("Fix of %.700s by %.500q: %.700s, error %d at %d; want error %d", shape(n), code, shape(m), e, at, want)
	}
	holdsFix(t, l, root, n)
}

// 20.1: trees that are read of no text: lists with fewer and more Kids than were read, bytes that are longer, a When of any N but 0, numbers that don't go together.
func TestFixTree(t *testing.T) {
	code := "struct a { u8 n = count v; u8 v[n]; u8 m = size b; bytes b[m]; u32le c = check n b; }"
	tree := func(n, m int, c uint32, text string, v ...api.Node) api.Node {
		return group("a", num("n", n), many("v", v...), num("m", m), chars("b", text), num("c", int(c)))
	}
	one := num("v", 'v')
	treeFixes(t, code, tree(3, 2, 7, "ab"), tree(0, 2, crc32.ChecksumIEEE([]byte("\x00\x02ab")), "ab"))
	treeFixes(t, code, tree(0, 0, 0, "", one, one, one), tree(3, 0, crc32.ChecksumIEEE([]byte("\x03vvv\x00")), "", one, one, one))
	treeFixes(t, code, tree(255, 255, 1<<32-1, "abc", one), tree(1, 3, crc32.ChecksumIEEE([]byte("\x01v\x03abc")), "abc", one))
	code = "struct a { u8 n; when n { u8 m = size b; bytes b[2]; } u8 k = count l; e l[n]; u8 z = size x; e x; } "
	for _, w := range []int{1, 2, -1, math.MinInt, math.MaxInt} {
		tree := func(m, k, z int) api.Node {
			return group("a", num("n", 0), when(w, num("m", m), chars("b", "abcd")), num("k", k), many("l", group("l"), group("l")), num("z", z), group("x"))
		}
		treeFixes(t, "struct e { } "+code, tree(9, 9, 9), tree(4, 2, 0))
	}
	none := func(k, z int) api.Node {
		return group("a", num("n", 7), when(0), num("k", k), many("l"), num("z", z), group("x"))
	}
	treeFixes(t, "struct e { } "+code, none(9, 9), none(0, 0))
	treeFixes(t, "struct a { }", group("a"), group("a"))
}

// 20.1: At and Size are as they were, and whatever else of a Node does not matter.
func TestFixKept(t *testing.T) {
	l, root := fitting(t, "struct s { u8 n = size b; bytes b[n]; } struct a { u8 m = count l; s l[m]; when 1 { u8 k; } when 0 { u8 z; } u8 w[2]; }")
	n := group("a", num("m", 0), many("l", group("l", num("n", 0), chars("b", "xyz"))), when(1, num("k", 5)), when(0), many("w", num("w", 1)))
	n.At, n.Size, n.N, n.Text = 7, -1, 8, "top"
	n.Kids[0] = api.Node{Name: "m", Kind: api.Scalar, At: math.MaxInt, Size: math.MinInt, Text: "q", Kids: []api.Node{{Name: "any"}, {Kids: []api.Node{{N: 3}}}}}
	n.Kids[1].At, n.Kids[1].Size, n.Kids[1].N = 1, 2, 3
	n.Kids[1].Kids[0].At, n.Kids[1].Kids[0].Size, n.Kids[1].Kids[0].Text = 4, 5, "l"
	n.Kids[1].Kids[0].Kids[0].At, n.Kids[1].Kids[0].Kids[0].Size = 10, 20
	n.Kids[1].Kids[0].Kids[1].N, n.Kids[1].Kids[0].Kids[1].Kids = 9, []api.Node{{At: 4}}
	n.Kids[2].N, n.Kids[2].At, n.Kids[2].Text = 6, 8, "when"
	n.Kids[3].At = 99
	n.Kids[4].Size, n.Kids[4].Kids[0].At, n.Kids[4].Kids[0].Size = 5, 5, 5
	want := fresh(n)
	want.Kids[0].N = 1
	want.Kids[1].Kids[0].Kids[0].N = 3
	m, err := Fix(l, root, n)
	if err != nil || !alike(m, want) {
		t.Errorf("Fix: %s, %v; want %s", shape(m), err, shape(want))
	}
	holdsFix(t, l, root, n)
}

// 20.1: ErrMissing and ErrArg, as Write tells them, without a place; ErrMissing ahead of ErrArg, and both ahead of ErrRange.
func TestFixErrors(t *testing.T) {
	code := "struct s { u8 n = size b; bytes b[n]; } struct a { i8 k = size b; s x; s l[k]; when k { u8 m; s y; } when k { u8 z; } bytes b[1]; u16be v[2]; }"
	good := group("a", num("k", 1), group("x", num("n", 0), chars("b", "b")), many("l", group("l", num("n", 0), chars("b", "b"))), when(1, num("m", 5), group("y", num("n", 0), chars("b", "b"))), when(0), chars("b", "z"), many("v", num("v", 9)))
	l, root := fitting(t, code)
	if e := holdsFix(t, l, root, good); e != api.OK {
		t.Fatalf("error %d", e)
	}
	for _, name := range []string{"", "b", "k", "aa", "A"} {
		for _, n := range []api.Node{good, {}, group("b")} {
			m, err := Fix(l, name, n)
			if e, at := spot(err); e != api.ErrMissing || at != -1 || !reflect.DeepEqual(m, api.Node{}) {
				t.Errorf("Fix as %q: %s, error %d at %d", name, shape(m), e, at)
			}
		}
	}
	if _, err := Fix(nil, "a", good); api.Tell(err) != api.ErrMissing {
		t.Errorf("Fix by no structs: %v", err)
	}
	for _, path := range append(paths(good), nil) {
		for name, bend := range map[string]func(x *api.Node){
			"Name":   func(x *api.Node) { x.Name += "q" },
			"Kind":   func(x *api.Node) { x.Kind++ },
			"Kind0":  func(x *api.Node) { x.Kind = 0 },
			"Kids":   func(x *api.Node) { x.Kids = append(x.Kids, api.Node{}) },
			"NoKids": func(x *api.Node) { x.Kids = nil },
			"N":      func(x *api.Node) { x.N = math.MaxInt },
			"N256":   func(x *api.Node) { x.N = 256 },
			"N-1":    func(x *api.Node) { x.N = -1 },
			"N0":     func(x *api.Node) { x.N = 0 },
		} {
			n := fresh(good)
			x := &n
			for _, i := range path {
				x = &x.Kids[i]
			}
			bend(x)
			_, want := layout.Write(l, root, n)
			if e := holdsFix(t, l, root, n); e != api.Tell(want) || name == "Name" && e != api.ErrArg || name == "Kind" && e != api.ErrArg {
				t.Errorf("%s at %v: error %d; Write: %v", name, path, e, want)
			}
		}
	}
	// A rule's number that its bytes do not tell is none of the struct's, though the rule would mend it.
	treeFails(t, "struct a { u8 n = size b; bytes b[1]; }", group("a", num("n", 256), chars("b", "b")), api.ErrArg)
	treeFails(t, "struct a { u8 n = size b; bytes b[1]; }", group("a", num("n", -1), chars("b", "b")), api.ErrArg)
	treeFails(t, "struct a { u8 n = size b; bytes b[1]; u8 m; }", group("a", num("n", 1), chars("b", strings.Repeat("b", 300)), num("m", 256)), api.ErrArg)
	treeFails(t, "struct a { u8 n = size b; bytes b[1]; }", group("a", num("n", 1), chars("b", strings.Repeat("b", 300))), api.ErrRange)
	treeFails(t, "struct a { u8 n = size b; bytes b[1]; }", group("b", num("n", 1), chars("b", strings.Repeat("b", 300))), api.ErrArg)
}

// 20.1: the greatest number that the bytes of a Size, or a Count, tell, and one more; Fix has no bound on bytes and Nodes.
func TestFixRange(t *testing.T) {
	for _, c := range numbers {
		if c.most > 1<<16 {
			continue // So many bytes, or parts, are beyond what the document bounds.
		}
		for _, n := range []int{0, 1, c.most - 1, c.most, c.most + 1, c.most + 2, 2*c.most + 2} {
			text := chars("b", strings.Repeat("b", n))
			list := many("v", slices.Repeat([]api.Node{num("v", 'v')}, n)...)
			for code, tree := range map[string]func(n int) api.Node{
				"struct a { " + c.word + " n = size b; bytes b[0]; }":                            func(n int) api.Node { return group("a", num("n", n), text) },
				"struct a { u8 v[0]; " + c.word + " n = count v; }":                              func(n int) api.Node { return group("a", list, num("n", n)) },
				"struct a { u8 v[0]; " + c.word + " n = size v; }":                               func(n int) api.Node { return group("a", list, num("n", n)) },
				"struct s { bytes b[0]; " + c.word + " n = size b; } struct a { s x; }":          func(n int) api.Node { return group("a", group("x", text, num("n", n))) },
				"struct s { bytes b[0]; } struct a { s l[2]; u8 z; " + c.word + " n = size l; }": func(n int) api.Node { return group("a", many("l", group("l", text)), num("z", 1), num("n", n)) },
				"struct s { bytes b[0]; " + c.word + " n = size b; } struct a { u8 z; when z { s l[2]; } }": func(n int) api.Node {
					return group("a", num("z", 1), when(1, many("l", group("l", text, num("n", n)))))
				},
				"struct a { when 0 { when 0 { bytes b[0]; " + c.word + " n = size b; } } }": func(n int) api.Node { return group("a", when(1, when(1, text, num("n", n)))) },
			} {
				if n <= c.most {
					treeFixes(t, code, tree(c.most), tree(n))
				} else {
					treeFails(t, code, tree(c.most), api.ErrRange)
				}
			}
		}
	}
}

// 20.1: numbers of four and of eight bytes tell the size, and the count, of whatever there is.
func TestFixWide(t *testing.T) {
	text := chars("b", strings.Repeat("b", 70_000))
	list := many("v", slices.Repeat([]api.Node{num("v", 'v')}, 70_000)...)
	for _, c := range numbers {
		if c.most < 1<<16 {
			continue
		}
		for _, n := range []int{c.least, -1, 0, c.most} {
			if n < c.least {
				continue
			}
			treeFixes(t, "struct a { "+c.word+" n = size b; bytes b[0]; }", group("a", num("n", n), text), group("a", num("n", 70_000), text))
			treeFixes(t, "struct a { "+c.word+" n = count v; u8 v[0]; }", group("a", num("n", n), list), group("a", num("n", 70_000), list))
		}
	}
}

// 20.1: a Size of a When, in a template that no text tells, as a When has no name there.
func TestFixSizeOfWhen(t *testing.T) {
	two := &api.Expr{Code: api.Num, N: 2}
	l := []api.Type{{Name: "a", Items: []api.Item{
		{Kind: api.Scalar, Name: "n", Width: 1, Rule: api.Size, First: "w"},
		{Kind: api.When, Name: "w", Count: two, Items: []api.Item{{Kind: api.Scalar, Name: "v", Width: 2}, {Kind: api.Bytes, Name: "b", Count: two}}},
	}}}
	w := when(1, num("v", 3), chars("b", "abc"))
	w.Name = "w"
	if n, err := Fix(l, "a", group("a", num("n", 0), w)); err != nil || !alike(n, group("a", num("n", 5), w)) {
		t.Errorf("Fix: %s, %v", shape(n), err)
	}
	w.N, w.Kids = 0, nil
	if n, err := Fix(l, "a", group("a", num("n", 9), w)); err != nil || !alike(n, group("a", num("n", 0), w)) {
		t.Errorf("Fix: %s, %v", shape(n), err)
	}
}

// 20.1: Right: is a text just what Fix and Write make of it? A text that Read refuses tells Read's errors, with their places, and so do Done and all edits.
func TestRight(t *testing.T) {
	code := "struct s { u8 n = size b; bytes b[n & 3]; } struct a { u8 k = count l; s l[k & 3]; u32le c = check k l; u8 z; }"
	right := "\x02\x01a\x02bc"
	right += le(right) + "z"
	l, root := fitting(t, code)
	if ok, err := Right(l, root, right); !ok || err != nil {
		t.Errorf("Right of %q: %v, %v", right, ok, err)
	}
	// Each bit but those of bytes and numbers that no rule makes matters, and these matter to the sum.
	for i := range right {
		for bit := range 8 {
			b := []byte(right)
			b[i] ^= 1 << bit
			s := string(b)
			ok, err := Right(l, root, s)
			_, want := layout.Read(l, root, s)
			if i == len(right)-1 && (!ok || err != nil) || i < len(right)-1 && ok || !reflect.DeepEqual(err, want) {
				t.Errorf("Right of %q: %v, %v", s, ok, err)
			}
			holds(t, l, root, s)
		}
	}
	fails(t, code, "a", "", api.ErrForm, 0)
	fails(t, code, "a", right[:3], api.ErrForm, 3)
	fails(t, code, "a", right[:len(right)-1], api.ErrForm, len(right)-1)
	fails(t, code, "a", right+"q", api.ErrForm, len(right))
	fails(t, code, "b", right, api.ErrMissing, -1)
	fails(t, code, "", "", api.ErrMissing, -1)
	fails(t, "struct a { i8 n; bytes b[n]; }", "a", "\xff", api.ErrForm, 1)
	fails(t, "struct a { u8 v[1000]; }", "a", strings.Repeat("v", 1000), api.ErrLimit, 398)
	fails(t, "struct a { u8 n = size b; bytes b[300]; }", "a", "n", api.ErrForm, 1)
	// Where Fix tells an error a text isn't right; that is no error of Right.
	s := "n" + strings.Repeat("b", 256)
	l, root = fitting(t, "struct a { u8 n = size b; bytes b[256]; }")
	if ok, err := Right(l, root, s); ok || err != nil {
		t.Errorf("Right: %v, %v", ok, err)
	}
	if s, err := Done(l, root, s); s != "" || api.Tell(err) != api.ErrRange {
		t.Errorf("Done: %q, %v", s, err)
	}
	// Right asks for neither of what Done asks more: MaxBytes, and that it is read again.
	for _, many := range []int{api.MaxBytes, api.MaxBytes + 1, 50_000} {
		l, root = fitting(t, "struct a { u16be n = size b; bytes b["+strconv.Itoa(many-2)+"]; }")
		s = string([]byte{byte((many - 2) >> 8), byte(many - 2)}) + strings.Repeat("b", many-2)
		if ok, err := Right(l, root, s); !ok || err != nil {
			t.Errorf("Right of %d bytes: %v, %v", many, ok, err)
		}
		if ok, err := Right(l, root, "z"+s[1:]); ok || err != nil {
			t.Errorf("Right of %d bytes, whose first one is wrong: %v, %v", many, ok, err)
		}
	}
}

// 20.1: what Same asks for, of the first Node and in a Kid at each depth; At and Size don't matter.
func TestSame(t *testing.T) {
	good := group("a", num("n", 1), group("x", chars("b", "text"), many("l", when(1, num("m", 2)), when(0))), many("v"))
	if !Same(good, good) || !Same(good, fresh(good)) || !Same(api.Node{}, api.Node{}) {
		t.Error("the same is not the same")
	}
	for _, path := range append(paths(good), nil) {
		for name, bend := range map[string]func(x *api.Node){
			"Name":   func(x *api.Node) { x.Name += "q" },
			"NoName": func(x *api.Node) { x.Name += "\x00" },
			"Kind":   func(x *api.Node) { x.Kind++ },
			"N":      func(x *api.Node) { x.N++ },
			"N-":     func(x *api.Node) { x.N = -x.N - 1 },
			"N32":    func(x *api.Node) { x.N += 1 << 32 },
			"Text":   func(x *api.Node) { x.Text += " " },
			"Texts":  func(x *api.Node) { x.Text = "tex" },
			"Kid+":   func(x *api.Node) { x.Kids = append(x.Kids, api.Node{}) },
			"Kid++":  func(x *api.Node) { x.Kids = append([]api.Node{{}}, x.Kids...) },
		} {
			n := fresh(good)
			x := &n
			for _, i := range path {
				x = &x.Kids[i]
			}
			bend(x)
			if Same(good, n) || Same(n, good) {
				t.Errorf("%s at %v doesn't matter", name, path)
			}
			if !Same(n, fresh(n)) {
				t.Errorf("%s at %v isn't the same as itself", name, path)
			}
		}
		n := fresh(good)
		x := &n
		for _, i := range path {
			x = &x.Kids[i]
		}
		x.At, x.Size = math.MinInt, 17
		if len(x.Kids) == 0 {
			x.Kids = []api.Node{}
		}
		if !Same(good, n) || !Same(n, good) {
			t.Errorf("At, Size or an empty list at %v matters", path)
		}
		if len(x.Kids) > 0 {
			x.Kids = x.Kids[:len(x.Kids)-1]
			if Same(good, n) || Same(n, good) {
				t.Errorf("a Kid fewer at %v doesn't matter", path)
			}
		}
	}
	if Same(group("a", num("n", 1), num("m", 2)), group("a", num("m", 2), num("n", 1))) {
		t.Error("the order of Kids doesn't matter")
	}
	if Same(group("a", group("b"), group("c", num("n", 1))), group("a", group("b", num("n", 1)), group("c"))) {
		t.Error("it doesn't matter in which one a Kid lies")
	}
}

// 20.2: Done of what is right already is that text; of what isn't it is the right one.
func TestDone(t *testing.T) {
	code := "struct s { u8 n = size b; bytes b[n & 3]; } struct a { u8 k = count l; s l[k & 3]; u32le c = check k l; u8 z; }"
	l, root := fitting(t, code)
	right := "\x02\x01a\x02bc"
	right += le(right) + "z"
	for _, s := range []string{right, "\x06\xfda\x82bc1234z", "\x02\x01a\x02bc1234z", "\xfe\x01a\x02bc" + le("\xfe\x01a\x02bc") + "z"} {
		if made, err := Done(l, root, s); made != right || err != nil {
			t.Errorf("Done of %q: %q, %v; want %q", s, made, err, right)
		}
		holds(t, l, root, s)
	}
	fixes(t, "struct a { }", "", "")
	fixes(t, "struct a { u8 n; }", "n", "n")
}

// finishes holds Done of a text, by a template's last struct, against the error that it must tell, without a place.
func finishes(t *testing.T, code, s string, want api.Errno) {
	t.Helper()
	l, root := fitting(t, code)
	made, err := Done(l, root, s)
	if e, at := spot(err); e != want || at != -1 || (want == api.OK) != (made != "") {
		t.Errorf("Done of %.100q by %.500q: %.100q, error %d at %d; want error %d", s, code, made, e, at, want)
	}
	holds(t, l, root, s)
}

// 20.2: ErrFalse: what is written is read otherwise, or not at all: a rule has made another number, on which a Count hangs.
func TestDoneFalse(t *testing.T) {
	for _, c := range []struct{ items, s string }{
		// Not at all: too few bytes, and too many, of Bytes, of a List, of a When.
		{"u8 n = size c; bytes b[n]; bytes c[2];", "\x01bcc"},
		{"u8 n = size c; bytes b[n]; bytes c[2];", "\x03bbbcc"},
		{"u8 n = count w; u8 v[n]; u8 w[1];", "\x02vvw"},
		{"u8 n = count w; u8 v[n]; u8 w[3];", "\x02vvwww"},
		{"u8 n = size b; bytes b[3]; when n == 2 { u8 x; }", "\x02bbbx"},
		{"u8 n = size b; bytes b[3]; when n == 3 { u8 x; }", "\x02bbb"},
		{"u32le n = check b; bytes b[1]; bytes d[n & 1];", "\x00\x00\x00\x00a"},
		{"i8 n = size b; bytes b[2]; bytes c[n - 3];", "\x05bbcc"},
		// Otherwise: as many bytes, which are parted otherwise.
		{"u8 n = size c; bytes b[n]; bytes d[4 - n]; bytes c[2];", "\x01bdddcc"},
		{"u8 n = size c; u8 v[n]; bytes d[4 - n]; bytes c[2];", "\x01vdddcc"},
		{"u8 n = size c; u8 v[n]; u8 w[4 - n]; bytes c[2];", "\x03vvvwcc"},
		{"u8 n = size c; bytes c[2]; when n == 1 { u8 x; } when n == 2 { u8 y; }", "\x01ccx"},
		{"u8 n = size c; bytes c[2]; when n == 1 { }", "\x01cc"},
		{"u8 n = size c; bytes c[2]; when n == 2 { }", "\x01cc"},
		{"u8 n = size c; bytes c[2]; e l[n];", "\x01cc"},
		{"u8 n = size c; bytes c[2]; when 1 { when 1 { e l[n]; } }", "\x03cc"},
		{"u8 n = size c; bytes c[2]; e l[n * 300];", "\x01cc"},
	} {
		finishes(t, "struct e { } struct a { "+c.items+" }", c.s, api.ErrFalse)
		finishes(t, "struct e { } struct i { "+c.items+" } struct a { u8 z; i x[1]; u8 y; }", "z"+c.s+"y", api.ErrFalse)
	}
	// A When of whatever N but 0 is read as one of N 1.
	fixes(t, "struct a { u8 n = size c; bytes c[2]; when n { u8 x; } }", "\x01ccx", "\x02ccx")
}

// 20.2: ErrFull: more than MaxBytes bytes; behind Fix's errors, ahead of ErrFalse. Read has no such bound.
func TestDoneFull(t *testing.T) {
	for _, many := range []int{api.MaxBytes - 1, api.MaxBytes, api.MaxBytes + 1, 50_000} {
		want, false1 := api.OK, api.ErrFalse
		if many > api.MaxBytes {
			want, false1 = api.ErrFull, api.ErrFull
		}
		count := strconv.Itoa(many - 2)
		finishes(t, "struct a { u16be n = size b; bytes b["+count+"]; }", strings.Repeat("b", many), want)
		finishes(t, "struct a { u16be n = size b; bytes b["+count+"]; when n == 0 { } }", "\x00\x00"+strings.Repeat("b", many-2), false1)
		finishes(t, "struct a { i8 n; i8 m = size b; bytes b["+count+"]; }", strings.Repeat("b", many), api.ErrRange)
	}
}

// 20.2, 19.1: MaxNodes Nodes are read, and one more is none.
func TestDoneNodes(t *testing.T) {
	code := "struct a { u16be n = count v; u8 v[n & 511]; }"
	at := api.MaxNodes - 3
	s := string([]byte{byte(at >> 8), byte(at)}) + strings.Repeat("v", at)
	fixes(t, code, s, s)
	fixes(t, code, "\x81"+s[1:], s)
	l, root := fitting(t, code)
	if _, err := Done(l, root, "\x01\x8e"+strings.Repeat("v", at+1)); api.Tell(err) != api.ErrLimit {
		t.Errorf("Done of a Node more: %v", err)
	}
	fails(t, code, "a", "\x01\x8e"+strings.Repeat("v", at+1), api.ErrLimit, at+2)
}

// tree is a template that has all parts there are, at several depths, and a text of it that is right.
const tree = "struct s { u8 n = size b; bytes b[n]; } struct t { u8 k; s x; s l[k]; when k == 2 { u8 m = count v; i16be v[m]; u8 o; } u32le c = check k x; } struct a { u8 f; t y; u8 j = count q; t q[j]; bytes e[2]; u16le g = size q; i8 w[3]; }"

// sText is an s that is right.
func sText(b string) string { return string([]byte{byte(len(b))}) + b }

// tText is a t that is right, if k and its list go together; v is its i16s' bytes, o the byte behind them.
func tText(k byte, x string, l []string, v, o string) string {
	s := string([]byte{k}) + sText(x)
	for _, b := range l {
		s += sText(b)
	}
	if k == 2 {
		s += string([]byte{byte(len(v) / 2)}) + v + o
	}
	return s + le(string([]byte{k})+sText(x))
}

// aText is an a that is right.
func aText(f, y string, q []string, e, w string) string {
	all := strings.Join(q, "")
	return f + y + string([]byte{byte(len(q))}) + all + e + string([]byte{byte(len(all)), byte(len(all) >> 8)}) + w
}

// The parts of the text.
var (
	y1 = tText(1, "xx", []string{"lll"}, "", "")
	q1 = tText(2, "x", []string{"l", ""}, "\x00\x01\xff\xfe", "o")
	q2 = tText(0, "", nil, "", "")
)

func treeText() string {
	return aText("f", y1, []string{q1, q2}, "ee", "\x01\x00\xff")
}

// 20.3: the part at the end of a path: ErrMissing, if there is none at any step, or path is empty; ahead of all that an edit asks for.
func TestPath(t *testing.T) {
	l, root := fitting(t, tree)
	s := treeText()
	n, err := layout.Read(l, root, s)
	if ok, fault := Right(l, root, s); err != nil || fault != nil || !ok {
		t.Fatalf("%q: %v, %v, %v", s, err, ok, fault)
	}
	met := map[string]int{}
	for _, path := range append(paths(n), nil) {
		holdsEdits(t, l, root, s, path, 3, "new", met)
		x, _ := at(n, path)
		odd := []int{-1, len(x.Kids), len(x.Kids) + 1, math.MinInt, math.MaxInt, -len(x.Kids), -len(x.Kids) - 1}
		for _, i := range odd {
			if i == 0 && len(x.Kids) > 0 {
				continue
			}
			wrong := append(slices.Clone(path), i)
			refuses(t, tree, s, wrong, all(0, "x"), api.ErrMissing)
			for _, more := range [][]int{{0}, {0, 0}, {-1}, {1, 2, 3}} {
				refuses(t, tree, s, slices.Concat(wrong, more), all(0, "x"), api.ErrMissing)
			}
		}
		// In the midst of a path one step is wrong.
		for i := range path {
			for _, to := range []int{-1, 100, math.MinInt, math.MaxInt} {
				wrong := slices.Clone(path)
				wrong[i] = to
				refuses(t, tree, s, wrong, all(math.MaxInt, "x"), api.ErrMissing)
			}
		}
	}
	refuses(t, tree, s, nil, all(0, "x"), api.ErrMissing)
	refuses(t, tree, s, []int{}, all(math.MaxInt, "x"), api.ErrMissing)
	refuses(t, tree, s, make([]int, 100_000), all(0, "x"), api.ErrMissing)
	for _, what := range []string{"Set, error 0", "Set, error 1", "Set, error 6", "Fill, error 0", "Fill, error 1", "Fill, error 13", "Double, error 0", "Double, error 1", "Drop, error 0", "Drop, error 1", "Drop, error 13"} {
		if met[what+" at -1"] == 0 {
			t.Errorf("%q isn't met: %v", what, met)
		}
	}
}

// qText is the text with other parts in q.
func qText(q ...string) string { return aText("f", y1, q, "ee", "\x01\x00\xff") }

// 20.3: Set, at each depth; what hangs on the number is reckoned anew, and what does not stays as it is.
func TestSet(t *testing.T) {
	s := treeText()
	makes(t, tree, s, []int{0}, set('g'), "g"+s[1:])
	makes(t, tree, s, []int{0}, set('f'), s)
	makes(t, tree, s, []int{0}, set(0), "\x00"+s[1:])
	makes(t, tree, s, []int{0}, set(255), "\xff"+s[1:])
	makes(t, tree, s, []int{6, 0}, set(-128), s[:len(s)-3]+"\x80\x00\xff")
	makes(t, tree, s, []int{6, 1}, set(127), s[:len(s)-3]+"\x01\x7f\xff")
	makes(t, tree, s, []int{6, 2}, set(-2), s[:len(s)-3]+"\x01\x00\xfe")
	makes(t, tree, s, []int{3, 0, 3, 2}, set('p'), qText(tText(2, "x", []string{"l", ""}, "\x00\x01\xff\xfe", "p"), q2))
	makes(t, tree, s, []int{3, 0, 3, 1, 0}, set(-32768), qText(tText(2, "x", []string{"l", ""}, "\x80\x00\xff\xfe", "o"), q2))
	makes(t, tree, s, []int{3, 0, 3, 1, 1}, set(32767), qText(tText(2, "x", []string{"l", ""}, "\x00\x01\x7f\xff", "o"), q2))
	makes(t, tree, s, []int{3, 0, 0}, set(2), s)
	// A number on which no Count hangs, but sums, sizes, at each depth.
	code := "struct s { u8 n; u32be c = check n; } struct a { s x; u32le d = check x; u8 k; when k { s y; when k { s l[2]; } u32le e = check y; } u8 z = size x; u32be g = check k; }"
	x := func(n string) string { return n + be(n) }
	text := func(x1, k, y, l1, l2, e string) string {
		return x(x1) + le(x(x1)) + k + x(y) + x(l1) + x(l2) + e + "\x05" + be(k)
	}
	right := func(x1, k, y, l1, l2 string) string {
		return text(x1, k, y, l1, l2, le(x(y)))
	}
	for _, s := range []string{right("x", "k", "y", "l", "m"), text("x", "k", "y", "l", "m", "1234")} {
		makes(t, code, s, []int{0, 0}, set('q'), right("q", "k", "y", "l", "m"))
		makes(t, code, s, []int{2}, set('q'), right("x", "q", "y", "l", "m"))
		makes(t, code, s, []int{3, 0, 0}, set('q'), right("x", "k", "q", "l", "m"))
		makes(t, code, s, []int{3, 1, 0, 0, 0}, set('q'), right("x", "k", "y", "q", "m"))
		makes(t, code, s, []int{3, 1, 0, 1, 0}, set('q'), right("x", "k", "y", "l", "q"))
		refuses(t, code, s, []int{2}, set(0), api.ErrFalse)
	}
}

// 20.3: Set of what is no Scalar is ErrArg, whatever the number; of one with a Rule ErrState, whatever the number; of a number that its bytes do not tell ErrRange.
func TestSetErrors(t *testing.T) {
	s := treeText()
	for _, v := range []int{0, 1, 3, -1, 256, math.MinInt, math.MaxInt} {
		for _, path := range [][]int{{1}, {1, 1}, {1, 1, 1}, {1, 2}, {1, 2, 0}, {1, 2, 0, 1}, {1, 3}, {3}, {3, 0}, {3, 0, 3}, {3, 0, 3, 1}, {4}, {6}} {
			refuses(t, tree, s, path, set(v), api.ErrArg)
		}
		for _, path := range [][]int{{1, 1, 0}, {1, 2, 0, 0}, {1, 4}, {2}, {3, 0, 1, 0}, {3, 0, 3, 0}, {3, 1, 4}, {5}} {
			refuses(t, tree, s, path, set(v), api.ErrState)
		}
	}
	for _, v := range []int{-1, 256, math.MinInt, math.MaxInt} {
		refuses(t, tree, s, []int{0}, set(v), api.ErrRange)
		refuses(t, tree, s, []int{3, 1, 0}, set(v), api.ErrRange)
	}
	for _, v := range []int{-129, 128, 255, math.MinInt, math.MaxInt} {
		refuses(t, tree, s, []int{6, 1}, set(v), api.ErrRange)
	}
}

// 20.3: the least and the greatest number of each kind are set, and one beyond each is not, alone and in a List.
func TestSetNumbers(t *testing.T) {
	for _, c := range numbers {
		for _, v := range []int{c.least, c.least + 1, -1, 0, 1, c.most - 1, c.most} {
			if v < c.least {
				continue
			}
			l, _ := fitting(t, "struct a { u8 z; "+c.word+" n; "+c.word+" v[2]; u32be c = check z v; }")
			x := l[0].Items[1]
			zero := strings.Repeat("\x00", x.Width)
			for path, want := range map[[2]int]string{{1}: bytesTold(v, x) + zero + zero, {2, 0}: zero + bytesTold(v, x) + zero, {2, 1}: zero + zero + bytesTold(v, x)} {
				p := path[:]
				if path[0] == 1 {
					p = path[:1]
				}
				made, err := Set(l, "a", "z"+zero+zero+zero+"1234", p, v)
				if made != "z"+want+be("z"+want) || err != nil {
					t.Errorf("Set of %v to %d, by %s: %q, %v", p, v, c.word, made, err)
				}
			}
		}
		for _, v := range []int{c.least - 1, c.most + 1, math.MinInt, math.MaxInt} {
			if v >= c.least && v <= c.most {
				continue
			}
			code := "struct a { " + c.word + " n; " + c.word + " v[1]; }"
			l, _ := fitting(t, code)
			s := strings.Repeat("\x00", 2*l[0].Items[0].Width)
			refuses(t, code, s, []int{0}, set(v), api.ErrRange)
			refuses(t, code, s, []int{1, 0}, set(v), api.ErrRange)
		}
	}
}

// 20.3, 20.2: a number on which a Count hangs may be set where what is written is read as it stands then: ErrFalse, where it is read otherwise, or not at all.
func TestSetFalse(t *testing.T) {
	for _, c := range []struct {
		items, s string
		v        int
		want     string // "": ErrFalse
	}{
		{"u8 n; bytes b[n];", "\x01b", 1, "\x01b"}, {"u8 n; bytes b[n];", "\x01b", 0, ""}, {"u8 n; bytes b[n];", "\x01b", 2, ""}, {"i8 n; bytes b[n];", "\x01b", -1, ""},
		{"u8 n; bytes b[n & 1];", "\x01b", 3, "\x03b"}, {"u8 n; bytes b[n & 1];", "\x01b", 2, ""},
		{"u8 n; u8 v[n];", "\x02vv", 2, "\x02vv"}, {"u8 n; u8 v[n];", "\x02vv", 1, ""}, {"u8 n; u8 v[n];", "\x02vv", 3, ""},
		{"u8 n; e l[n];", "\x02", 2, "\x02"}, {"u8 n; e l[n];", "\x02", 3, ""}, {"u8 n; e l[n];", "\x02", 255, ""}, {"u16be n; e l[n];", "\x00\x02", 65535, ""},
		{"u8 n; bytes b[n]; bytes c[3 - n];", "\x01abc", 2, ""}, {"u8 n; bytes b[n]; bytes c[3 - n];", "\x01abc", 1, "\x01abc"},
		{"u8 n; when n { u8 x; }", "\x01x", 200, "\xc8x"}, {"u8 n; when n { u8 x; }", "\x01x", 0, ""}, {"u8 n; when n { u8 x; }", "\x00", 0, "\x00"}, {"u8 n; when n { u8 x; }", "\x00", 1, ""},
		{"u8 n; when n { }", "\x00", 1, ""}, {"u8 n; when n { }", "\x01", 0, ""}, {"u8 n; when n { }", "\x01", 2, "\x02"},
		{"u8 n; when n < 2 { u8 x; } when n > 1 { u8 y; }", "\x01x", 0, "\x00x"}, {"u8 n; when n < 2 { u8 x; } when n > 1 { u8 y; }", "\x01x", 2, ""},
		// What is set is no Count any more, when a rule makes another one of what hangs on it.
		{"u8 n; u8 m = count v; u8 v[m];", "\x00\x01v", 7, "\x07\x01v"},
	} {
		code := "struct e { } struct a { " + c.items + " }"
		if c.want == "" {
			refuses(t, code, c.s, []int{0}, set(c.v), api.ErrFalse)
		} else {
			makes(t, code, c.s, []int{0}, set(c.v), c.want)
		}
	}
}

// 20.3: Fill, at each depth, with fewer bytes, more, and none; what hangs on them is reckoned anew.
func TestFill(t *testing.T) {
	s := treeText()
	for _, b := range []string{"", "x", "yy", "new", "\x00\xff\x80", strings.Repeat("z", 100)} {
		makes(t, tree, s, []int{1, 1, 1}, fill(b), aText("f", tText(1, b, []string{"lll"}, "", ""), []string{q1, q2}, "ee", "\x01\x00\xff"))
		makes(t, tree, s, []int{1, 2, 0, 1}, fill(b), aText("f", tText(1, "xx", []string{b}, "", ""), []string{q1, q2}, "ee", "\x01\x00\xff"))
		makes(t, tree, s, []int{3, 0, 1, 1}, fill(b), qText(tText(2, b, []string{"l", ""}, "\x00\x01\xff\xfe", "o"), q2))
		makes(t, tree, s, []int{3, 0, 2, 0, 1}, fill(b), qText(tText(2, "x", []string{b, ""}, "\x00\x01\xff\xfe", "o"), q2))
		makes(t, tree, s, []int{3, 0, 2, 1, 1}, fill(b), qText(tText(2, "x", []string{"l", b}, "\x00\x01\xff\xfe", "o"), q2))
		makes(t, tree, s, []int{3, 1, 1, 1}, fill(b), qText(q1, tText(0, b, nil, "", "")))
		if len(b) == 2 {
			makes(t, tree, s, []int{4}, fill(b), aText("f", y1, []string{q1, q2}, b, "\x01\x00\xff"))
		} else {
			refuses(t, tree, s, []int{4}, fill(b), api.ErrFalse)
		}
	}
	// Of what isn't right the rules are done, too.
	makes(t, "struct a { u8 n = size b; bytes b[n & 3]; u32le c = check n b; }", "\x81b1234", []int{1}, fill("bc"), "\x02bc"+le("\x02bc"))
	// In a When of N 1.
	makes(t, "struct a { u8 k; when k { u8 n = size b; bytes b[n]; } u8 z; }", "k\x01bz", []int{1, 1}, fill("new"), "k\x03newz")
}

// 20.3: Fill of what is no Bytes is ErrArg; then FINISH's errors: ErrRange, ahead of ErrFull, ahead of ErrFalse.
func TestFillErrors(t *testing.T) {
	s := treeText()
	for _, b := range []string{"", "xx", strings.Repeat("z", 5000)} {
		for _, path := range [][]int{{0}, {1}, {1, 0}, {1, 1}, {1, 1, 0}, {1, 2}, {1, 2, 0}, {1, 3}, {1, 4}, {2}, {3}, {3, 0}, {3, 0, 3}, {3, 0, 3, 1}, {3, 0, 3, 1, 0}, {3, 0, 3, 2}, {5}, {6}, {6, 1}} {
			refuses(t, tree, s, path, fill(b), api.ErrArg)
		}
	}
	z := func(n int) []doing { return fill(strings.Repeat("z", n)) }
	code := "struct a { u8 n = size b; bytes b[n]; }"
	makes(t, code, "\x00", []int{1}, z(255), "\xff"+strings.Repeat("z", 255))
	for _, n := range []int{256, 257, 3999, 4000, 100_000} {
		refuses(t, code, "\x00", []int{1}, z(n), api.ErrRange)
	}
	code = "struct a { i8 n = size b; bytes b[n]; }"
	makes(t, code, "\x00", []int{1}, z(127), "\x7f"+strings.Repeat("z", 127))
	refuses(t, code, "\x00", []int{1}, z(128), api.ErrRange)
	code = "struct a { u16be n = size b; bytes b[n]; }"
	makes(t, code, "\x00\x00", []int{1}, z(api.MaxBytes-2), "\x0f\x9e"+strings.Repeat("z", api.MaxBytes-2))
	refuses(t, code, "\x00\x00", []int{1}, z(api.MaxBytes-1), api.ErrFull)
	refuses(t, code, "\x00\x00", []int{1}, z(65535), api.ErrFull)
	refuses(t, code, "\x00\x00", []int{1}, z(65536), api.ErrRange)
	code = "struct a { bytes b[2]; u8 z; }"
	refuses(t, code, "bbz", []int{0}, z(api.MaxBytes-1), api.ErrFalse)
	refuses(t, code, "bbz", []int{0}, z(api.MaxBytes), api.ErrFull)
	refuses(t, code, "bbz", []int{0}, z(1), api.ErrFalse)
	refuses(t, code, "bbz", []int{0}, z(0), api.ErrFalse)
	makes(t, code, "bbz", []int{0}, z(2), "zzz")
	// A text that has more than MaxBytes bytes is made a shorter one, but not one of as many, by any edit.
	code = "struct a { u16le n = size b; bytes b[n]; u8 z[1]; }"
	long := "\x40\x1f" + strings.Repeat("b", 8000) + "z"
	makes(t, code, long, []int{1}, fill("short"), "\x05\x00shortz")
	refuses(t, code, long, []int{1}, z(8000), api.ErrFull)
	refuses(t, code, long, []int{2, 0}, set(1), api.ErrFull)
	refuses(t, code, long, []int{2, 0}, double(), api.ErrFull)
	refuses(t, code, long, []int{2, 0}, drop(), api.ErrFull)
}

// 20.3: Double, of the first, the last, and the only one of a List, at each depth.
func TestDouble(t *testing.T) {
	s := treeText()
	makes(t, tree, s, []int{3, 0}, double(), qText(q1, q1, q2))
	makes(t, tree, s, []int{3, 1}, double(), qText(q1, q2, q2))
	makes(t, tree, qText(q1), []int{3, 0}, double(), qText(q1, q1))
	makes(t, tree, s, []int{3, 0, 3, 1, 0}, double(), qText(tText(2, "x", []string{"l", ""}, "\x00\x01\x00\x01\xff\xfe", "o"), q2))
	makes(t, tree, s, []int{3, 0, 3, 1, 1}, double(), qText(tText(2, "x", []string{"l", ""}, "\x00\x01\xff\xfe\xff\xfe", "o"), q2))
	for _, path := range [][]int{{1, 2, 0}, {3, 0, 2, 0}, {3, 0, 2, 1}, {6, 0}, {6, 1}, {6, 2}} {
		refuses(t, tree, s, path, double(), api.ErrFalse)
	}
	code := "struct a { u8 n = count v; u8 v[n]; }"
	makes(t, code, "\x01v", []int{1, 0}, double(), "\x02vv")
	makes(t, code, "\x02vw", []int{1, 0}, double(), "\x03vvw")
	makes(t, code, "\x02vw", []int{1, 1}, double(), "\x03vww")
	makes(t, code, "\xfe"+strings.Repeat("v", 254), []int{1, 9}, double(), "\xff"+strings.Repeat("v", 255))
	refuses(t, code, "\xff"+strings.Repeat("v", 255), []int{1, 9}, double(), api.ErrRange)
	code = "struct a { i8 n = count v; u8 v[n]; }"
	makes(t, code, "\x7e"+strings.Repeat("v", 126), []int{1, 125}, double(), "\x7f"+strings.Repeat("v", 127))
	refuses(t, code, "\x7f"+strings.Repeat("v", 127), []int{1, 126}, double(), api.ErrRange)
	// Each one in its place, where they are unlike.
	code = "struct s { u8 n = size b; bytes b[n]; } struct a { u8 k = count l; s l[k]; u8 z = size l; u32be c = check k z; }"
	text := func(l ...string) string {
		all := ""
		for _, b := range l {
			all += sText(b)
		}
		s := string([]byte{byte(len(l))}) + all + string([]byte{byte(len(all))})
		return s + be(s)
	}
	parts := []string{"a", "", "bcd", "ef"}
	for i, x := range parts {
		makes(t, code, text(parts...), []int{1, i}, double(), text(slices.Insert(slices.Clone(parts), i, x)...))
		makes(t, code, text(parts...), []int{1, i}, drop(), text(slices.Delete(slices.Clone(parts), i, i+1)...))
	}
	makes(t, code, text("a"), []int{1, 0}, drop(), text())
}

// 20.3: Double and Drop of a part that lies in no List are ErrArg, whatever it is.
func TestNoList(t *testing.T) {
	l, root := fitting(t, tree)
	s := treeText()
	n, err := layout.Read(l, root, s)
	if err != nil {
		t.Fatal(err)
	}
	for _, path := range paths(n) {
		if in, _ := at(n, path[:len(path)-1]); in.Kind != api.List {
			refuses(t, tree, s, path, slices.Concat(double(), drop()), api.ErrArg)
		}
	}
}

// 20.3, 20.2: MaxNodes Nodes behind Double, and one more, which is ErrFalse, as Read refuses it; just MaxBytes bytes, and more.
func TestDoubleMost(t *testing.T) {
	code := "struct a { u16be n = count v; u8 v[n]; }"
	text := func(n int) string {
		return string([]byte{byte(n >> 8), byte(n)}) + strings.Repeat("v", n)
	}
	at := api.MaxNodes - 3
	makes(t, code, text(at-1), []int{1, 0}, double(), text(at))
	refuses(t, code, text(at), []int{1, 0}, double(), api.ErrFalse)
	code = "struct s { u16be n = size b; bytes b[n]; } struct a { u16be k = count l; s l[k]; bytes z[4]; }"
	part := func(n int) string { return string([]byte{byte(n >> 8), byte(n)}) + strings.Repeat("b", n) }
	half := (api.MaxBytes - 6) / 2
	makes(t, code, "\x00\x01"+part(half-2)+"zzzz", []int{1, 0}, double(), "\x00\x02"+part(half-2)+part(half-2)+"zzzz")
	refuses(t, code, "\x00\x01"+part(half-1)+"zzzz", []int{1, 0}, double(), api.ErrFull)
	refuses(t, "struct s { bytes b[2000]; } struct a { s l[1]; u8 z; }", strings.Repeat("b", 2000)+"z", []int{0, 0}, double(), api.ErrFull)
	refuses(t, "struct s { bytes b[2000]; } struct a { s l[1]; }", strings.Repeat("b", 2000), []int{0, 0}, double(), api.ErrFalse)
}

// 20.3: Drop, of the first, the last, and the only one of a List, at each depth.
func TestDrop(t *testing.T) {
	s := treeText()
	makes(t, tree, s, []int{3, 0}, drop(), qText(q2))
	makes(t, tree, s, []int{3, 1}, drop(), qText(q1))
	makes(t, tree, qText(q1), []int{3, 0}, drop(), qText())
	makes(t, tree, s, []int{3, 0, 3, 1, 0}, drop(), qText(tText(2, "x", []string{"l", ""}, "\xff\xfe", "o"), q2))
	makes(t, tree, s, []int{3, 0, 3, 1, 1}, drop(), qText(tText(2, "x", []string{"l", ""}, "\x00\x01", "o"), q2))
	for _, path := range [][]int{{1, 2, 0}, {3, 0, 2, 0}, {3, 0, 2, 1}, {6, 0}, {6, 1}, {6, 2}} {
		refuses(t, tree, s, path, drop(), api.ErrFalse)
	}
	code := "struct a { u8 n = count v; u8 v[n]; }"
	makes(t, code, "\x01v", []int{1, 0}, drop(), "\x00")
	makes(t, code, "\x03vwx", []int{1, 0}, drop(), "\x02wx")
	makes(t, code, "\x03vwx", []int{1, 1}, drop(), "\x02vx")
	makes(t, code, "\x03vwx", []int{1, 2}, drop(), "\x02vw")
	refuses(t, code, "\x00", []int{1, 0}, drop(), api.ErrMissing)
	// A part is taken out of a text whose other parts are too many for their Count.
	refuses(t, "struct a { i8 n = size v; u8 k; u8 v[k]; }", "\x00\x02vv", []int{2, 1}, drop(), api.ErrFalse)
	refuses(t, "struct a { i8 n = size v; u8 v[200]; }", "\x00"+strings.Repeat("v", 200), []int{1, 1}, drop(), api.ErrRange)
}

// 20.3: what is told first, where more than one thing is wrong: Read's errors, the path, what the edit asks for, Fix's errors, ErrFull, ErrFalse.
func TestFirst(t *testing.T) {
	code := "struct a { u16be k; u8 n = size b; bytes b[k]; u8 v[2]; }"
	bad := "\x01\x00" + "\x00" + strings.Repeat("b", 256) + "vv"   // its Size cannot be done
	full := "\x10\x00" + "\x00" + strings.Repeat("b", 4096) + "vv" // nor here, and it is too long
	short := bad[:len(bad)-1]
	fails(t, code, "b", short, api.ErrMissing, -1)
	fails(t, code, "a", short, api.ErrForm, len(short))
	for _, s := range []string{bad, full} {
		refuses(t, code, s, []int{4}, all(1<<40, "x"), api.ErrMissing)
		refuses(t, code, s, nil, all(1<<40, "x"), api.ErrMissing)
		refuses(t, code, s, []int{2}, slices.Concat(set(1<<40), double(), drop()), api.ErrArg)
		refuses(t, code, s, []int{1}, slices.Concat(fill("x"), double(), drop()), api.ErrArg)
		refuses(t, code, s, []int{1}, set(1<<40), api.ErrState)
		refuses(t, code, s, []int{0}, set(1<<40), api.ErrRange)
		refuses(t, code, s, []int{0}, set(0), api.ErrRange)
		refuses(t, code, s, []int{3, 0}, set(5), api.ErrRange)
		refuses(t, code, s, []int{2}, fill(strings.Repeat("z", 5000)), api.ErrRange)
		refuses(t, code, s, []int{2}, fill("z"), api.ErrFalse)
		refuses(t, code, s, []int{3, 0}, slices.Concat(double(), drop()), api.ErrRange)
	}
	code = "struct a { u16be k; bytes b[k]; u8 v[2]; }"
	full = "\x10\x00" + strings.Repeat("b", 4096) + "vv"
	refuses(t, code, full, []int{0}, set(1<<16), api.ErrRange)
	refuses(t, code, full, []int{0}, set(0), api.ErrFull)
	refuses(t, code, full, []int{2, 1}, slices.Concat(double(), drop()), api.ErrFull)
	refuses(t, code, full, []int{1}, fill("z"), api.ErrFalse)
}

// texts is all texts of up to so many of a few bytes.
func texts(bytes string, most int) []string {
	l := []string{""}
	for from, many := 0, 0; many < most; many++ {
		to := len(l)
		for _, s := range l[from:to] {
			for i := range len(bytes) {
				l = append(l, s+bytes[i:i+1])
			}
		}
		from = to
	}
	return l
}

// 20.1, 20.2, 20.3: all short texts of a few bytes, by templates of all sorts, and all edits of all parts of them.
func TestAllShort(t *testing.T) {
	parts := "struct e { } struct s { u8 n = size b; bytes b[n & 1]; } struct v { i8 n = count v; i8 v[n & 1]; } struct w { u8 k; when k > 1 { u8 m = size x; e x; } } "
	met := map[string]int{}
	for _, items := range []string{
		"", "u8 n;", "i16le n; u8 m;", "u8 n = size m; u8 m;", "u8 n = size b; bytes b[n & 1]; u8 m = size n;", "u8 n; bytes b[n]; u8 m = size b;", "i8 n = count v; u8 v[n & 3];", "i8 n; u8 v[n & 3]; i8 m = count v; u8 z = size v;",
		"s x;", "s x; s y; ", "v x; u8 n = size x;", "s l[2];", "u8 n = count l; s l[n & 1]; u8 m = size l;", "v l[2]; u8 n = count l;", "w x; u8 n = size x;", "u8 n = count l; w l[n & 1]; e m[n & 1];", "u8 n; e l[n];", "u8 n = count l; e l[n];",
		"u8 n; when n { u8 m = size b; bytes b[m & 1]; } u8 k;", "i8 n = size v; u8 v[2]; when n < 2 { u8 m = size x; s x; }", "u8 n; when n == 1 { when 1 { u8 m = count l; e l[m]; } }", "u8 n; u8 v[n & 1]; when n == 5 { s x; }", "u8 n = size b; bytes b[1]; bytes c[n & 1]; bytes d[1 - (n & 1)];",
	} {
		l, root := fitting(t, parts+"struct a { "+items+" }")
		for _, s := range texts("\x00\x01\x02\x05\xff", 4) {
			holds(t, l, root, s)
			n, err := layout.Read(l, root, s)
			if err != nil {
				holdsEdits(t, l, root, s, []int{0}, 1, "x", met)
				continue
			}
			for i, path := range paths(n) {
				holdsEdits(t, l, root, s, path, []int{0, 1, 2, 255, -1}[i%5], []string{"", "b", "bc"}[i%3], met)
				holdsEdits(t, l, root, s, path, []int{1, -128, 256, 5}[len(s)%4], "\x01", met)
			}
		}
	}
	// One byte is no sum: those of four bytes are tried one by one.
	for _, items := range []string{"u32le c = check n; u8 n;", "u8 n; u32be c = check n;", "u32be c = check b; bytes b[0];", "u32be c = check l; s l[2];", "u8 n; when n { u32le c = check b; bytes b[1]; }"} {
		l, root := fitting(t, parts+"struct a { "+items+" }")
		for _, s := range texts("\x00\x01\xd2", 7) {
			holds(t, l, root, s)
			if n, err := layout.Read(l, root, s); err == nil {
				for _, path := range paths(n) {
					holdsEdits(t, l, root, s, path, 1, "b", met)
				}
			}
		}
	}
	for _, what := range []string{"Set, error 0", "Set, error 1", "Set, error 2", "Set, error 6", "Set, error 13", "Fill, error 0", "Fill, error 1", "Fill, error 13", "Double, error 0", "Double, error 1", "Double, error 13", "Drop, error 0", "Drop, error 1", "Drop, error 13"} {
		if met[what+" at -1"] < 100 {
			t.Errorf("%q is met %d times", what, met[what+" at -1"])
		}
	}
}

// maker draws templates that fit together.
type maker struct {
	*drawn
	names int
	types []string // structs that were made
}

// name is a name that no other item has.
func (m *maker) name() string {
	m.names++
	return "x" + strconv.Itoa(m.names)
}

// count is an expression of the numbers that are seen.
func (m *maker) count(seen []string) string {
	if len(seen) == 0 || m.below(3) == 0 {
		return m.one("0", "1", "2", "3", "1", "2")
	}
	a, b := m.one(seen...), m.one(seen...)
	return m.one(a, a, a+" & 3", a+" & 1", a+" == "+b, a+" > 1", "("+a+" | "+b+") & 1", "2 * ("+b+" < 3)")
}

// items is the text of a few items.
func (m *maker) items(deep int, seen []string) string {
	var l []string
	var named, lists []string
	for range 1 + m.below(5) {
		n := m.name()
		switch m.below(8) {
		case 0:
			if deep > 0 {
				l = append(l, "when "+m.count(seen)+" { "+m.items(deep-1, slices.Clone(seen))+"} ")
			}
			continue
		case 1, 2:
			l = append(l, m.list("bytes", n, seen)...)
		case 3:
			l = append(l, m.list(m.one("u8", "i16be", "u16le", "i8"), n, seen)...)
			lists = append(lists, n)
		case 4:
			if len(m.types) == 0 {
				continue
			}
			l = append(l, m.one(m.types...)+" "+n+"; ")
		case 5:
			if len(m.types) == 0 {
				continue
			}
			l = append(l, m.list(m.one(m.types...), n, seen)...)
			lists = append(lists, n)
		default:
			l = append(l, m.one("u8", "u8", "u8", "i8", "u16be", "i16le", "i32be", "u32le", "i64le")+" "+n+"; ")
			seen = append(seen, n)
		}
		named = append(named, n)
	}
	return m.ruled(l, named, lists)
}

// list is a list, or bytes, with a number ahead that a rule makes its Count, or without one.
func (m *maker) list(kind, n string, seen []string) []string {
	if m.below(2) == 0 {
		return []string{kind + " " + n + "[" + m.count(seen) + "]; "}
	}
	k, rule := m.name(), " = count "
	if kind == "bytes" {
		rule = " = size "
	}
	return []string{m.one("u8", "i8", "u16le") + " " + k + rule + n + "; ", kind + " " + n + "[" + k + m.one("", " & 3") + "]; "}
}

// ruled is items among which numbers with rules are put, and Counts that hang on these.
func (m *maker) ruled(l, named, lists []string) string {
	for range m.below(4) {
		n, x := m.name(), ""
		switch m.below(3) {
		case 0:
			if len(lists) == 0 {
				continue
			}
			x = m.one("u8", "i8", "u16be", "i64le") + " " + n + " = count " + m.one(lists...) + "; "
		case 1:
			if len(named) == 0 {
				continue
			}
			x = m.one("u8", "i8", "u16le", "i32be") + " " + n + " = size " + m.one(named...) + "; "
		case 2:
			if len(named) == 0 {
				continue
			}
			x = m.one("u32le", "u32be") + " " + n + " = check " + m.one(named...) + m.one("", " "+m.one(named...)) + "; "
		}
		l = slices.Insert(l, m.below(len(l)+1), x)
		named = append(named, n)
		if m.below(3) == 0 {
			l = append(l, "bytes "+m.name()+"["+n+" & 3]; ")
		}
	}
	return strings.Join(l, "")
}

// template is a few structs, the last of which is a; those that do not fit together are drawn anew.
func (m *maker) template(t *testing.T) []api.Type {
	for {
		s := ""
		m.types = nil
		for _, name := range []string{"s", "t", "a"} {
			m.names = 0
			s += "struct " + name + " { " + m.items(2, nil) + "} "
			m.types = append(m.types, name)
		}
		if l := read(t, s); types.Check(l) == nil {
			return l
		}
	}
}

// grown is a text that is as a template has it, if growing byte by byte finds one.
func grown(d *drawn, l []api.Type) (string, bool) {
	s := ""
	for range 60 {
		if _, err := layout.Read(l, "a", s); err == nil {
			return s, true
		}
		s += d.one("\x00", "\x01", "\x02", "\x03", "\x00", "a", "\xff")
	}
	return "", false
}

// 20.1, 20.2, 20.3: drawn templates and texts, edits of drawn parts, and edits of what these have made.
func TestDrawn(t *testing.T) {
	d := drawn(1)
	m := &maker{drawn: &d}
	met := map[string]int{}
	done := map[api.Errno]int{}
	for range 3000 {
		l := m.template(t)
		s, ok := grown(&d, l)
		if !ok {
			continue
		}
		done[holds(t, l, "a", s)]++
		if made, err := Done(l, "a", s); err == nil && d.below(3) > 0 {
			s = made
		}
		for range 10 {
			n, err := layout.Read(l, "a", s)
			if err != nil {
				t.Fatal(err)
			}
			var path []int
			for x := n; len(x.Kids) > 0; {
				path = append(path, d.below(len(x.Kids)))
				x = x.Kids[path[len(path)-1]]
			}
			switch d.below(8) {
			case 0:
				path = append(path, d.below(3)-1)
			case 1, 2:
				path = path[:d.below(len(path)+1)]
			}
			v, text := d.below(400)-140, strings.Repeat("w", d.below(4)*d.below(4)*d.below(40))
			holdsEdits(t, l, "a", s, path, v, text, met)
			all := all(v, text)
			if made, err := all[d.below(4)].to(l, "a", s, path); err == nil {
				s = made
			}
		}
	}
	for _, e := range []api.Errno{api.OK, api.ErrFalse} {
		if done[e] < 20 {
			t.Errorf("Done: error %d is met %d times", e, done[e])
		}
	}
	for _, what := range []string{"Set, error 0", "Set, error 1", "Set, error 2", "Set, error 6", "Set, error 7", "Set, error 13", "Fill, error 0", "Fill, error 1", "Fill, error 2", "Fill, error 7", "Fill, error 13", "Double, error 0", "Double, error 1", "Double, error 7", "Double, error 13", "Drop, error 0", "Drop, error 1", "Drop, error 7", "Drop, error 13"} {
		if met[what+" at -1"] < 20 {
			t.Errorf("%q is met %d times: %v", what, met[what+" at -1"], met)
		}
	}
}

// roomy is a copy of a Node, in which something stands behind the length of each list.
func roomy(n api.Node) api.Node {
	kids := make([]api.Node, 0, len(n.Kids)+1)
	for _, k := range n.Kids {
		kids = append(kids, roomy(k))
	}
	kids = append(kids, num("behind", 7))
	n.Kids = kids[:len(kids)-1]
	return n
}

// untouched: does it still stand there, of all lists?
func untouched(n api.Node) bool {
	if behind := n.Kids[:len(n.Kids)+1][len(n.Kids)]; !reflect.DeepEqual(behind, num("behind", 7)) {
		return false
	}
	for _, k := range n.Kids {
		if !untouched(k) {
			return false
		}
	}
	return true
}

// spoil writes into all lists of a Node, and behind them.
func spoil(n api.Node) {
	for i := range n.Kids {
		spoil(n.Kids[i])
		n.Kids[i] = num("spoilt", -1)
	}
	_ = append(n.Kids, num("behind", -1), num("behind", -1))
}

// pointers is a pointer to each Node in a Node.
func pointers(n *api.Node) []*api.Node {
	l := []*api.Node{n}
	for i := range n.Kids {
		l = append(l, pointers(&n.Kids[i])...)
	}
	return l
}

// P4: the same is told each time; nothing that is handed in is written into, nor what stands behind it; what Fix tells is the caller's, and no two lists of it share anything, even where those of the tree do.
func TestAgain(t *testing.T) {
	l, root := fitting(t, tree)
	want, _ := fitting(t, tree)
	l = slices.Grow(l, 1)
	s := treeText()
	n, err := layout.Read(l, root, strings.Replace(s, "\x02xx", "\x02yx", 1))
	if err != nil {
		t.Fatal(err)
	}
	n.Kids[2].N, n.Kids[5].N, n.Kids[3].Kids[0].Kids[4].N = 9, 9, 9
	n.Kids[0].Kids = []api.Node{{Name: "any", Kids: []api.Node{{}}}} // a Scalar has no use for them
	first, err := Fix(l, root, n)
	if err != nil {
		t.Fatal(err)
	}
	told, was := fresh(first), fresh(n)
	for range 3 {
		in := roomy(n)
		m, err := Fix(l, root, in)
		if err != nil || !alike(m, told) {
			t.Errorf("Fix = %s, %v; at first %s", shape(m), err, shape(told))
		}
		spoil(m)
		if !untouched(in) || !alike(in, was) {
			t.Errorf("Fix writes into what it is handed, or tells something of it: %s", shape(in))
		}
		if !Same(in, n) || Same(in, first) || !untouched(in) || !alike(in, was) {
			t.Error("Same writes into what it is handed")
		}
		if !reflect.DeepEqual(l, want) || !reflect.DeepEqual(l[:4][3], api.Type{}) {
			t.Error("Fix writes into templates")
		}
		if _, err := Fix(l, root, group("a")); api.Tell(err) != api.ErrArg {
			t.Errorf("Fix of what is none of its: %v", err)
		}
	}
	if !alike(first, told) {
		t.Errorf("what was told is %s, behind what was made of what was told later", shape(first))
	}
	for _, x := range pointers(&first) {
		_ = append(x.Kids, num("behind", -1), num("behind", -1))
		if cap(x.Kids) > len(x.Kids) {
			_ = append(x.Kids, num("behind", -1))
		}
		if !alike(first, told) {
			t.Fatalf("lists of one answer share something: %s, at first %s", shape(first), shape(told))
		}
	}
}

// P4: lists of a tree that are one list are as many lists behind Fix.
func TestShared(t *testing.T) {
	l, root := fitting(t, "struct s { u8 n = size b; bytes b[n]; } struct a { s l[2]; s x; s y; u8 v[1]; }")
	kids := []api.Node{num("n", 0), chars("b", "b")}
	v := api.Node{Name: "v", Kind: api.Scalar, Kids: kids} // a Scalar has no use for them
	n, err := Fix(l, root, group("a", many("l", group("l", kids...), group("l", kids...)), group("x", kids...), group("y", kids...), many("v", v)))
	if err != nil {
		t.Fatal(err)
	}
	met := map[*api.Node]bool{}
	for _, x := range pointers(&n) {
		if met[x] {
			t.Errorf("two lists of an answer share %s", shape(*x))
		}
		met[x] = true
		for i := range kids {
			if x == &kids[i] {
				t.Errorf("an answer shares %s with what was handed in", shape(*x))
			}
		}
	}
	if kids[0].N != 0 {
		t.Error("Fix writes into what it is handed")
	}
}

// P4: paths and templates stay what they are, and edits tell the same each time.
func TestEditAgain(t *testing.T) {
	l, root := fitting(t, tree)
	want, _ := fitting(t, tree)
	s := treeText()
	for _, c := range []struct {
		path []int
		do   []doing
	}{{[]int{0}, set(5)}, {[]int{3, 0, 1, 1}, fill("new")}, {[]int{3, 1}, double()}, {[]int{3, 0}, drop()}, {[]int{9}, all(0, "x")}, {[]int{1}, all(0, "x")}} {
		for _, d := range c.do {
			path := append(slices.Clone(c.path), 77, 78)[:len(c.path)]
			first, err := d.to(l, root, s, path)
			for range 3 {
				made, fault := d.to(l, root, s, path)
				if made != first || !reflect.DeepEqual(err, fault) {
					t.Errorf("%v of %v: %q, %v; at first %q, %v", d, path, made, fault, first, err)
				}
			}
			if all := path[:len(path)+2]; !slices.Equal(all, append(slices.Clone(c.path), 77, 78)) {
				t.Errorf("%v writes into a path: %v", d, all)
			}
			if ok, err := Right(l, root, s); !ok || err != nil {
				t.Errorf("behind %v: Right: %v, %v", d, ok, err)
			}
			if !reflect.DeepEqual(l, want) {
				t.Errorf("%v writes into templates", d)
			}
		}
	}
}

// ends calls all functions with whatever there is: they end, and don't panic; with an error nothing else is told.
func ends(t *testing.T, l []api.Type, root, s string, n api.Node) {
	t.Helper()
	if m, err := Fix(l, root, n); err != nil && !reflect.DeepEqual(m, api.Node{}) {
		t.Errorf("Fix: %s, %v", shape(m), err)
	}
	if ok, err := Right(l, root, s); err != nil && ok {
		t.Errorf("Right: %v, %v", ok, err)
	}
	if made, err := Done(l, root, s); err != nil && made != "" {
		t.Errorf("Done: %q, %v", made, err)
	}
	for _, path := range [][]int{nil, {0}, {0, 0}, {0, 0, 0}, {1}, {1, 0}, {1, 1}, {2}, {-1}} {
		for _, d := range all(1, "x") {
			if made, err := d.to(l, root, s, path); err != nil && made != "" {
				t.Errorf("%v of %v: %q, %v", d, path, made, err)
			}
		}
	}
}

// P1: templates that Check doesn't take, and that Parse never tells; trees of all sorts.
func TestOdd(t *testing.T) {
	deep := api.Node{}
	for range 3000 {
		deep = group("x", deep)
	}
	deep.Name = "a"
	trees := []api.Node{{}, deep, group("a"), group("a", deep), group("a", num("n", 1)), group("a", num("n", 1), num("m", 1)), group("a", num("n", 1), num("c", 1)), group("a", num("n", 1), num("m", 1), num("c", 1)), group("a", many("n", num("n", -1))), group("a", when(1, when(1, api.Node{}))), {Name: "a", Kind: -1}}
	for _, code := range []string{
		"struct a { a x; }", "struct a { u8 n; a x[n]; }", "struct a { a x[2]; }", "struct a { when 1 { a x; } }", "struct a { b x; } struct b { a x; }", "struct a { b x; }", "struct a { u8 n; b x[n]; }",
		"struct a { } struct a { u8 n; }", "struct a { u8 n; } struct a { }", "struct a { u8 n; u8 n; bytes n[n]; }", "struct a { bytes b[n]; }", "struct a { u8 n[n]; when n { } }",
		"struct a { u8 n = count m; u32le c = check c d; }", "struct a { u8 n = size n; }", "struct a { u8 n = count n; }", "struct a { u8 n = check n; }", "struct a { i8 n; u8 m = check n; }", "struct a { u8 n; u8 m = check m n; }", "struct a { u8 n; u8 m; u32le c = check m n; }", "struct a { u8 n = check m; u8 m = check n; }",
		"struct a { u8 n = count m; u8 m; }", "struct a { u8 n = count m; bytes m[1]; }", "struct a { u8 n; when n { u8 m = size n; } }", "struct a { u8 n = size m; when n { u8 m; } }", "struct a { u8 n = size n; u8 n = count n; u32be n = check n; }",
	} {
		for _, n := range trees {
			for _, s := range []string{"", "\x00", "\x01\x01", "\x01\x01\x01\x01\x01\x01", "\x02\x03\x04\x05", strings.Repeat("\x01", 500)} {
				ends(t, read(t, code), "a", s, n)
			}
		}
	}
	odd := []int{math.MinInt, -1, 0, 1, 2, 3, 4, 5, 8, 9, 64, math.MaxInt}
	one := &api.Expr{Code: api.Num, N: 1}
	for _, k := range odd {
		for _, w := range odd {
			for _, x := range []api.Item{
				{Kind: k, Name: "n", Width: w, Rule: api.Size, First: "n"}, {Kind: k, Name: "n", Width: w, Rule: api.Size, First: "", Count: one}, {Kind: k, Name: "n", Order: w, Width: 1, Rule: w, First: "n", Last: ""}, {Kind: k, Name: "n", Width: 1, Rule: api.Check, First: "n", Last: "n"}, {Kind: k, Name: "n", Width: 4, Rule: api.Check, First: "", Last: "n"}, {Kind: k, Name: "n", Width: 4, Rule: api.Check, First: "n", Last: "", Count: one},
				{Kind: k, Name: "n", Width: 1, Rule: api.Count, First: "n", Many: true, Count: one}, {Kind: k, Name: "n", Width: 1, Rule: api.Count, First: "", Type: "a", Count: one}, {Kind: k, Name: "n", Width: w, Rule: k, First: "n", Last: "n", Many: true, Count: one, Items: []api.Item{{Kind: k, Width: 1}}},
			} {
				l := []api.Type{{Name: "a", Items: []api.Item{x, {Kind: api.When, Count: one, Rule: w, First: "n", Last: "n", Items: []api.Item{x}}}}}
				m := api.Node{Name: "n", Kind: k, N: w}
				for _, n := range append(trees, group("a", m, when(0)), group("a", m, when(1, m)), group("a", many("n", m), when(1, many("n", m)))) {
					ends(t, l, "a", "\x01\x02\x03", n)
					ends(t, l, "", "", n)
				}
			}
		}
	}
	ends(t, nil, "", "", api.Node{})
	Same(deep, deep)
}
