package types

import (
	"errors"
	"math"
	"reflect"
	"slices"
	"strconv"
	"strings"
	"testing"

	"escritoire/api"
	"escritoire/tmpl"
)

// drawn is numbers that look drawn, the same each time.
type drawn uint64

func (d *drawn) below(most int) int {
	*d = *d*6364136223846793005 + 1442695040888963407
	return int(uint64(*d>>33) % uint64(most))
}

// one is one of several texts.
func (d *drawn) one(l ...string) string {
	return l[d.below(len(l))]
}

// read is a text's structs.
func read(t *testing.T, s string) []api.Type {
	t.Helper()
	l, err := tmpl.Parse(s)
	if err != nil {
		t.Fatalf("Parse(%.300q): %v", s, err)
	}
	return l
}

// same holds what Check tells of structs against what is wanted.
func same(t *testing.T, s string, l []api.Type, want api.Errno, where int) {
	t.Helper()
	err := Check(l)
	at := -1
	var a *api.At
	if errors.As(err, &a) {
		at = a.Place
	}
	if e := api.Tell(err); e != want || at != where {
		t.Errorf("Check of %.500q: error %d at %d, want %d at %d", s, e, at, want, where)
	}
}

// fit holds templates against their text: they fit together.
func fit(t *testing.T, l ...string) {
	t.Helper()
	for _, s := range l {
		same(t, s, read(t, s), api.OK, -1)
	}
}

// amiss holds templates against the error that they must have, where @ stands in their texts.
func amiss(t *testing.T, want api.Errno, l ...string) {
	t.Helper()
	for _, s := range l {
		where := strings.Index(s, "@")
		s = strings.Replace(s, "@", "", 1)
		same(t, s, read(t, s), want, where)
	}
}

// asTold holds Check of a text's structs, and Order of their blocks, against what is told another way.
func asTold(t *testing.T, s string) api.Errno {
	t.Helper()
	l := read(t, s)
	want, where := checkTold(l)
	same(t, s, l, want, where)
	if want == api.OK {
		for _, x := range l {
			ordered(t, s, x.Items)
		}
	}
	return want
}

// ordered holds the orders of a block, and of those in it, against what is told another way.
func ordered(t *testing.T, s string, l []api.Item) {
	t.Helper()
	if order := Order(l); !orderTold(l, order) {
		t.Errorf("Order in %.500q: %v", s, order)
	}
	for _, x := range l {
		ordered(t, s, x.Items)
	}
}

// 18.1: templates that fit together.
func TestCheck(t *testing.T) {
	fit(t,
		"", "# x", "struct a {}", "struct a {} struct b {} struct A {}",
		"struct a { u8 n; bytes b[n]; u16le m[n]; when n { u8 k; bytes c[n + k]; } }",
		"struct pair { u8 n = size s; bytes s[n]; } struct top { u16be kind; u8 many = count l; pair l[many]; when kind == 1 { i8 more; } u32le sum = check kind l; }",
		"struct pair { u8 n; } struct list { pair n; u8 m; pair l[m]; } struct top { list n; pair m; }",
		"struct a1 { u8 x; } struct a { a1 x; } struct b { a x; a1 y; } struct c { b x; a y; a1 z; }",
		"struct a { i64be n; when n < 0 { when n == 1 { bytes b[n]; } } }",
		"struct a { bytes b[9223372036854775807]; u8 c[0]; when 0 {} }",
		"struct a { when 1 { u8 n; } when 2 { u8 m; when m { bytes b[m]; } } }",
		// Names of items, of structs and words in expressions don't stand in each other's way.
		"struct n { u8 n; } struct a { n a; n b; u8 n; bytes c[n]; }",
		"struct a { u8 a; when a { u8 b; } }",
	)
	for _, word := range []string{"u8", "i8", "u16le", "u16be", "i16le", "i16be", "u32le", "u32be", "i32le", "i32be", "i64le", "i64be"} {
		fit(t,
			"struct a { "+word+" n; bytes b[n]; }", "struct a { "+word+" n[3]; }",
			"struct a { "+word+" n = size b; bytes b[n]; }", "struct a { "+word+" n = count b; u8 b[n]; }", "struct a { "+word+" n = size m; u8 m = size n; }",
		)
	}
}

// 18.1: a struct that is called as an earlier one.
func TestCheckStructTwice(t *testing.T) {
	amiss(t, api.ErrTwice,
		"struct a {} struct @a {}", "struct a {} struct b {} struct @a {}", "struct a {} struct b {} struct @b {} struct a {}", "struct a { u8 a; } struct   @a { u8 a; }",
		// It is told ahead of what is wrong in it, and in later ones.
		"struct a {} struct @a { u8 n; u8 n; }", "struct a {} struct @a { a n; none m; }", "struct a {} struct @a {} struct b { none n; }",
	)
	// What is wrong in an earlier one is told ahead of it.
	amiss(t, api.ErrMissing, "struct a { @none n; } struct a {}", "struct a {} struct b { @none n; } struct a {}")
	amiss(t, api.ErrCycle, "struct a { @u32le c = check d; u32le d = check c; } struct a {}")
	fit(t, "struct a {} struct A {} struct a_ {} struct aa {} struct _a {}")
	full := ""
	for i := range api.MaxTypes {
		full += "struct a" + strconv.Itoa(i) + " {} "
	}
	fit(t, full)
	for i := range api.MaxTypes - 1 {
		amiss(t, api.ErrTwice, strings.Replace(full, "struct a7", "struct @a"+strconv.Itoa(i), 1))
	}
}

// 18.1: an item that is called as one ahead of it.
func TestCheckItemTwice(t *testing.T) {
	for _, x := range []string{"u8 n;", "i64be n;", "u8 n[2];", "bytes n[2];", "s n;", "s n[2];", "u8 n = size b;", "u32le n = check b;"} {
		for _, y := range []string{"u8 n;", "bytes n[2];", "s n;", "s n[0];", "u16le n[2];", "u8 n = size b;"} {
			s := "struct s {} struct a { bytes b[1]; "
			amiss(t, api.ErrTwice,
				s+x+" @"+y+" }", s+x+" u8 m; @"+y+" }", s+x+" when 1 { @"+y+" } }", s+x+" when 1 { when 1 { @"+y+" } } }",
				s+"when 1 { "+x+" @"+y+" } }", s+"when 1 { "+x+" when 1 { @"+y+" } } }",
			)
			// In a struct that is another one it may be called so.
			fit(t, s+x+" } struct c { bytes b[1]; "+y+" }", "struct s {} struct c { bytes b[1]; "+y+" } struct a { bytes b[1]; "+x+" }")
		}
		if strings.Contains(x, "=") {
			continue // b is in no block that is over
		}
		amiss(t, api.ErrTwice, "struct s {} struct a { when 1 { "+x+" } @u8 n; }", "struct s {} struct a { when 1 { "+x+" } when 2 { @u8 n; } }", "struct s {} struct a { when 1 { when 1 { "+x+" } @u8 n; } }", "struct s {} struct a { when 1 { when 1 { "+x+" } } u8 m; when 2 { when 2 { @bytes n[1]; } } }")
	}
	amiss(t, api.ErrTwice,
		"struct a { u8 n; u8 m; @u8 m; u8 n; }", "struct a { u8 n; when 1 { u8 m; } when 1 { @u8 n; u8 m; } }",
		// It is told ahead of a struct that is none, and of what its count asks for.
		"struct a { u8 n; @none n; }", "struct a { u8 n; @bytes n[m]; }", "struct a { u8 n; @none n[m]; }", "struct a { u8 n; @u8 n[m]; }",
	)
	fit(t, "struct a { u8 n; u8 N; u8 n_; u8 nn; }", "struct a { u8 a; }", "struct s {} struct a { s s; }")
}

// 18.1: a struct as a part that stands later, that is itself, that is none.
func TestCheckPart(t *testing.T) {
	amiss(t, api.ErrMissing,
		"struct a { @b x; } struct b {}", "struct a { @a x; }", "struct a { @none x; }", "struct a { @A x; }", "struct a {} struct b { a x; @b y; }", "struct a { @b x[2]; } struct b {}", "struct a { @a x[0]; }",
		"struct a { when 1 { @a x; } }", "struct a { when 0 { when 0 { @none x; } } }", "struct a { u8 n; @n x; }", "struct a { u8 n; @a x[n]; }",
		// It is told ahead of what its count asks for.
		"struct a { @none x[n]; }", "struct a { @a x[n + m]; }",
	)
	fit(t, "struct a {} struct b { a x; }", "struct a {} struct b { a x[3]; when 1 { a y; } } struct c { b x; a y; }")
	// Each of its items is looked at, wholly ahead of the next one.
	amiss(t, api.ErrMissing, "struct a { @none x; u8 x; }", "struct a { @none x; bytes b[n]; }")
	amiss(t, api.ErrName, "struct a { bytes b[@n]; none x; }")
}

// 18.1: the names for which expressions ask.
func TestCheckSeen(t *testing.T) {
	for _, word := range []string{"n", "u8", "size", "struct"} {
		amiss(t, api.ErrName, "struct a { when @"+word+" {} }", "struct a { bytes b[@"+word+"]; }", "struct a { u8 b[@"+word+"]; }", "struct s {} struct a { s b[@"+word+"]; }", "struct n {} struct a { bytes b[@"+word+"]; }")
	}
	amiss(t, api.ErrName,
		// The first one, from the left.
		"struct a { bytes b[@n + m]; }", "struct a { u8 n; bytes b[n + @m + k]; }", "struct a { u8 m; bytes b[@n * m]; }", "struct a { u8 n; when n == (1 + n) * (@k - m) {} }", "struct a { u8 n; when 0 & (@k | n) {} }", "struct a { u8 n; when n + n + @n0 {} }",
		// What stands behind, and itself.
		"struct a { bytes b[@n]; u8 n; }", "struct a { when @n { u8 n; } }", "struct a { when @n {} u8 n; }", "struct a { u8 n[@n]; }", "struct a { bytes n[@n]; }", "struct a { u8 n[1 + @n]; u8 m; }",
		// What is no number, or many.
		"struct a { u8 n[1]; bytes b[@n]; }", "struct a { i64le n[0]; when @n {} }", "struct a { bytes n[1]; bytes b[@n]; }", "struct s {} struct a { s n; bytes b[@n]; }", "struct s {} struct a { s n[1]; bytes b[@n]; }", "struct s { u8 m; } struct a { s n; bytes b[@m]; }", "struct a { u8 m; when 1 { bytes b[@a]; } }",
		// What was seen in a when alone, or in another struct.
		"struct a { when 1 { u8 n; } bytes b[@n]; }", "struct a { when 1 { u8 n; } when @n {} }", "struct a { when 1 { u8 n; } when 1 { bytes b[@n]; } }", "struct a { when 1 { when 1 { u8 n; } bytes b[@n]; } }", "struct a { when 1 { when 1 { u8 n; } bytes b[1]; } bytes c[@n]; }", "struct a { u8 n; } struct b { bytes b[@n]; }", "struct a { u8 n; } struct b { a n; bytes b[@n]; }", "struct a { u8 n; when n { u8 m; } when @m {} }",
		// A when's count is told ahead of its items, and these ahead of what stands behind it.
		"struct a { when @n { none x; } }", "struct a { when 1 { bytes b[@n]; } none x; }", "struct a { u8 x; when @n { u8 x; } }",
	)
	fit(t,
		"struct a { u8 n; bytes b[n]; when n { bytes c[n]; when n { u8 d[n]; } } }", "struct a { u8 n; when 1 { u8 m; bytes b[n + m]; } bytes c[n]; }",
		"struct a { u8 n = size b; bytes b[n]; }", "struct a { u32le n = check b; bytes b[n]; }", "struct a { i8 n; when 1 {} when 2 {} bytes b[n]; }",
		"struct a { when 1 { u8 n; when n { u8 m; bytes b[n + m]; } bytes c[n]; } u8 k; bytes d[k]; }",
	)
	// As deep as whens may lie in one another: what stands about them is seen, and not behind them.
	open, shut := "", ""
	for i := range api.MaxDepth - 1 {
		n := strconv.Itoa(i)
		open, shut = open+"u8 n"+n+"; when n"+n+" { ", " } bytes b"+n+"[n"+n+"];"+shut
	}
	fit(t, "struct a { "+open+"bytes b[n0 + n1 + n6];"+shut+" }")
	for i := range api.MaxDepth - 2 {
		n := strconv.Itoa(i)
		amiss(t, api.ErrName, "struct a { "+open+"u8 z;"+strings.Replace(shut, "b"+n+"[", "b"+n+"[n"+n+" + @n"+strconv.Itoa(i+1)+" + ", 1)+" }")
	}
}

// 18.1: what rules hang on stands in their very block.
func TestCheckRuleMissing(t *testing.T) {
	for _, rule := range []string{"u8 n = size", "u8 n = count", "u32le n = check", "u32be n = check x", "u8 n = check"} {
		s := "struct a { u8 x[1]; "
		amiss(t, api.ErrMissing,
			s+"@"+rule+" b; }", s+"@"+rule+" a; }", s+"when 1 { u8 b[1]; } @"+rule+" b; }", s+"@"+rule+" b; when 1 { u8 b[1]; } }", s+"when 1 { when 1 { u8 b[1]; } @"+rule+" b; } }",
			"struct a { u8 b[1]; when 1 { u8 x[1]; @"+rule+" b; } }", "struct a { when 1 { u8 x[1]; @"+rule+" b; } u8 b[1]; }", "struct a { u8 b[1]; u8 y; when 1 { u8 x[1]; when 1 { u8 z; @"+rule+" y; } } }",
			"struct b { u8 b[1]; } "+s+"b c; @"+rule+" b; }", s+"@"+rule+" b; } struct b { u8 b[1]; }",
		)
	}
	for _, rule := range []string{"u32le n = check b x", "u32le n = check b b", "u32le n = check b n", "i8 n = check b x"} {
		amiss(t, api.ErrMissing, "struct a { u8 x; @"+rule+"; }", "struct a { u8 b; when 1 { u8 x; @"+rule+"; } }")
	}
	// First may be this very item's: then it is there.
	amiss(t, api.ErrMissing, "struct a { @u32le n = check n x; }", "struct a { @u32le n = check x n; }")
	fit(t,
		"struct a { u8 n = size b; u8 m = size b; u32le c = check b; bytes b[1]; }", "struct a { u8 n = size b; u8 b; }", "struct a { u8 b; u8 n = size b; }", "struct s {} struct a { s b; u8 n = size b; s c[2]; u8 m = size c; u8 k = count c; }",
		"struct a { u8 b; when 1 { u8 n = size c; bytes c[1]; } }", "struct a { u8 n = size b; when 1 { u8 m = size c; u8 c; } u8 b; }", "struct a { u8 n[3]; u8 m = count n; u8 k = size m; u8 j = size k; }",
	)
}

// 18.1: a Count of what is not Many, and a Check that is no u32.
func TestCheckRuleFalse(t *testing.T) {
	for _, x := range []string{"u8 b;", "i64be b;", "bytes b[2];", "s b;", "u8 b = size c;", "u8 b = count d;", "u32le b = check c;"} {
		s := "struct s {} struct a { u8 c; u8 d[1]; "
		amiss(t, api.ErrFalse, s+"@u8 n = count b; "+x+" }", s+x+" @i64le n = count b; }", s+"@u32le n = count b; "+x+" }")
	}
	// Itself, too: it is told ahead of where it stands.
	amiss(t, api.ErrFalse, "struct a { @u8 n = count n; }", "struct a { @u32be n = count n; }")
	for _, x := range []string{"u8 b[1];", "u8 b[0];", "i64be b[2];", "s b[2];"} {
		s := "struct s {} struct a { "
		fit(t, s+"u8 n = count b; "+x+" }", s+x+" u8 n = count b; }")
	}
	for _, word := range []string{"u8", "i8", "u16le", "u16be", "i16le", "i16be", "i32le", "i32be", "i64le", "i64be"} {
		amiss(t, api.ErrFalse,
			"struct a { @"+word+" c = check b; u8 b; }", "struct a { u8 b; @"+word+" c = check b; }", "struct a { u8 b; u8 d; @"+word+" c = check b d; }", "struct a { when 1 { u8 b; @"+word+" c = check b; } }",
			// It is told ahead of the order, and of where it stands.
			"struct a { u8 b; u8 d; @"+word+" c = check d b; }", "struct a { @"+word+" c = check c; }", "struct a { u8 b; @"+word+" c = check b d; u8 d; }",
		)
	}
	for _, word := range []string{"u32le", "u32be"} {
		fit(t, "struct a { "+word+" c = check b; u8 b; }", "struct a { u8 b; "+word+" c = check b; }", "struct s {} struct a { u8 b; s d; bytes e[1]; "+word+" c = check b e; }")
	}
}

// 18.1: Last ahead of First; and a rule that stands from First to Last itself.
func TestCheckRuleOrder(t *testing.T) {
	amiss(t, api.ErrOrder,
		"struct a { @u32le c = check b a; u8 a; u8 b; }", "struct a { u8 a; u8 b; @u32le c = check b a; }", "struct a { u8 a; @u32le c = check b a; u8 b; }", "struct a { u8 a; u8 x; u8 y; u8 b; @u32be c = check b a; }",
		// It stands at one of them itself.
		"struct a { @u32le c = check b c; u8 b; }", "struct a { u8 b; @u32le c = check c b; }",
		"struct a { when 1 { @u32le c = check b a; u8 a; u8 b; } }",
	)
	amiss(t, api.ErrState,
		"struct a { @u8 n = size n; }", "struct a { u8 a; @i64be n = size n; u8 b; }", "struct a { @u32le n = check n; }", "struct a { @u32le n = check n n; }",
		"struct a { @u32le c = check c b; u8 b; }", "struct a { u8 b; @u32le c = check b c; }", "struct a { u8 a; @u32le c = check a b; u8 b; }", "struct a { u8 a; u8 x; @u32be c = check a b; u8 y; u8 b; }", "struct a { when 1 { u8 a; @u32le c = check a b; u8 b; } }",
	)
	fit(t,
		"struct a { u8 a; u8 b; u32le c = check a b; }", "struct a { u32le c = check a b; u8 a; u8 b; }", "struct a { u8 a; u32le c = check a; u8 b; }", "struct a { u8 a; u32le c = check b; u8 b; }", "struct a { u8 a; u8 x; u32le c = check a x; u8 y; u8 b; u32le d = check y b; }",
		// From First to Last there may be all sorts of items.
		"struct s {} struct a { u8 a; when 1 { u8 x; } s b; u8 n[2]; bytes d[3]; u8 e = size d; u32le c = check a e; }",
	)
}

// 18.1: Checks over themselves, by whichever others.
func TestCheckCycle(t *testing.T) {
	amiss(t, api.ErrCycle,
		"struct a { @u32le c = check d; u32le d = check c; }", "struct a { @u32le c = check d; u32be d = check e; u32le e = check c; }", "struct a { @u32le c = check d; u32le d = check e; u32le e = check f; u32le f = check c; }",
		"struct a { @u32le c = check e; u32le d = check c; u32le e = check d; }",
		// Within what the sum is taken over, with others.
		"struct a { @u32le c = check b d; u8 b; u32le d = check c; }", "struct a { @u32le c = check d b; u32le d = check c; u8 b; }", "struct a { u8 a; @u32le c = check b e; u8 b; u32le d = check a c; u8 e; }", "struct a { @u32le c = check x z; u8 x; u32le y = check c; u8 z; }",
		// One that leads to such, but isn't of them.
		"struct a { u32le b = check c; @u32le c = check d; u32le d = check c; }", "struct a { u32le b = check c d; @u32le c = check d; u32le d = check c; }", "struct a { u32le x = check y; u32le y = check z; u8 b; @u32le z = check d; u32le d = check z; }",
		// Two of them: the first item of them is told.
		"struct a { @u32le c = check f; u32le d = check e; u32le e = check d; u32le f = check c; }", "struct a { u32le x = check c; @u32le d = check e; u32le e = check d; u32le c = check f; u32le f = check c; }",
		"struct a { when 1 { @u32le c = check d; u32le d = check c; } }",
	)
	fit(t,
		"struct a { u32le c = check d; u32le d = check e; u32le e = check b; u8 b; }", "struct a { u32le c = check b; u32le d = check c; u32le e = check c d; u8 b; }", "struct a { u32le c = check d e; u32le d = check e; u32le e = check b; u8 b; }",
		// Sizes and Counts are taken over nothing, and a when's Checks aren't this block's.
		"struct a { u8 n = size m; u8 m = size n; }", "struct a { u8 n = size c; u32le c = check n; }", "struct a { u8 n[1]; u8 m = count n; u32le c = check m; u8 k = size c; }",
		"struct a { u32le c = check b e; u8 b; when 1 { u32le d = check f; u8 f; } u8 e; }",
	)
	// All items of a block, one over the next one, the last one over the first.
	for n := 2; n <= api.MaxItems; n++ {
		s := ""
		for i := range n {
			s += "u32le c" + strconv.Itoa(i) + " = check c" + strconv.Itoa((i+1)%n) + "; "
		}
		amiss(t, api.ErrCycle, "struct a { @"+s+"}")
		fit(t, "struct a { "+strings.Replace(s, "check c0", "size c0", 1)+"}")
	}
}

// 18.1: what is told first, where more than one thing is wrong.
func TestCheckFirst(t *testing.T) {
	// All items ahead of all rules, all rules ahead of what goes round.
	amiss(t, api.ErrTwice, "struct a { u8 n = size none; u8 m; @u8 m; }", "struct a { u32le c = check d; u32le d = check c; @u8 c; }", "struct a { u8 n = count n; when 1 { @u8 n; } }")
	amiss(t, api.ErrMissing, "struct a { u8 n = size x; @none m; }", "struct a { u32le c = check d; u32le d = check c; @u8 n = size x; }")
	amiss(t, api.ErrName, "struct a { u8 n = size n; bytes b[@x]; }", "struct a { u8 n = size x; when @x {} }")
	amiss(t, api.ErrFalse, "struct a { u32le c = check d; u32le d = check c; @u8 n = count c; }")
	amiss(t, api.ErrOrder, "struct a { u32le c = check d; u32le d = check c; @u32le n = check d c; }")
	amiss(t, api.ErrState, "struct a { u32le c = check d; u32le d = check c; @u8 n = size n; }")
	// A when's rules, and what goes round in it, stand ahead of what stands behind it, and of the rules about it.
	amiss(t, api.ErrMissing, "struct a { u8 n = size n; when 1 { @u8 m = size x; } u8 n; }", "struct a { when 1 { @u8 m = size x; } none y; }", "struct a { when 1 { @u8 m = size x; } bytes b[y]; }")
	amiss(t, api.ErrCycle, "struct a { u8 n = size n; when 1 { @u32le c = check d; u32le d = check c; } u8 n; }", "struct a { u32le x = check y; u32le y = check x; when 1 { @u32le c = check d; u32le d = check c; } }")
	amiss(t, api.ErrState, "struct a { when 1 { when 1 { @u8 n = size n; } u8 m = size x; } u8 n = count y; }")
	amiss(t, api.ErrTwice, "struct a { u8 n; when 1 { u8 m = size x; @u8 n; } }", "struct a { when 1 { u8 m = size x; when 1 { @u8 m; } } }")
	// Rules, one wholly ahead of the next one.
	amiss(t, api.ErrState, "struct a { @u8 n = size n; u8 m = size x; }", "struct a { @u8 n = size n; u8 m = count n; }")
	amiss(t, api.ErrOrder, "struct a { @u32le c = check b a; u8 a = size a; u8 b = size x; }")
	amiss(t, api.ErrFalse, "struct a { @u8 n = count m; u8 m = size x; }")
	amiss(t, api.ErrMissing, "struct a { @u8 m = size x; u8 n = size n; u8 k = count n; }", "struct a { @u8 m = check x m; }", "struct a { u8 b; @u8 m = check b x; }")
	// Structs, one wholly ahead of the next one.
	amiss(t, api.ErrCycle, "struct a { @u32le c = check d; u32le d = check c; } struct b { u8 n; u8 n; }")
	amiss(t, api.ErrState, "struct a {} struct b { @u8 n = size n; } struct a {} struct c { none x; }")
}

// block is the text of a block's items: each of them, called by a letter, goes on by one of the kinds.
func block(kinds []string, which []int) string {
	s := ""
	for i, k := range which {
		s += strings.ReplaceAll(kinds[k], "@", string(rune('a'+i))) + " "
	}
	return s
}

// each goes through all lists of so many numbers below most.
func each(many, most int, do func(l []int)) {
	l := make([]int, many)
	for {
		do(l)
		i := 0
		for i < many && l[i] == most-1 {
			l[i] = 0
			i++
		}
		if i == many {
			return
		}
		l[i]++
	}
}

// checks is Checks over all there is from one to another letter, of which there are so many.
func checks(letters string) []string {
	var l []string
	for _, a := range letters {
		for _, b := range letters {
			l = append(l, "u32le @ = check "+string(a)+" "+string(b)+";")
		}
	}
	return l
}

// 18.1, 18.2: all blocks of a few items, with all rules over each other.
func TestCheckAll(t *testing.T) {
	all := func(many int, kinds []string) {
		met := map[api.Errno]int{}
		each(many, len(kinds), func(which []int) {
			met[asTold(t, "struct s {} struct t { "+block(kinds, which)+"}")]++
		})
		if met[api.OK] == 0 {
			t.Errorf("of blocks of %d items none fits", many)
		}
	}
	plain := []string{"u8 @;", "u8 @[1];", "bytes @[2];", "s @[1];", "when 1 { u8 c@; }", "u8 b;", "u8 @[a];", "when a { u8 b@[b]; }", "t @;"}
	ruled := []string{"u8 @ = size a;", "u8 @ = size b;", "u8 @ = size c;", "u8 @ = count a;", "u8 @ = count c;", "u8 @ = count d;", "i32le @ = check b;", "when 1 { u8 m@ = size a; }", "when b { u32le m@ = check m@; }"}
	all(1, slices.Concat(plain, ruled, checks("ab")))
	all(2, slices.Concat(plain, ruled, checks("abc")))
	all(3, slices.Concat(plain, ruled, checks("abc")))
	all(4, append(checks("abcd"), "u8 @;"))
}

// over is a Check over a few items, in their order, of those there are.
func (d *drawn) over(name string, many int) string {
	from := d.below(many)
	to := from + d.below(min(3, many-from))
	return d.one("u32le ", "u32be ") + name + " = check x" + strconv.Itoa(from) + " x" + strconv.Itoa(to) + "; "
}

// 18.1, 18.2: drawn blocks of as many items as there may be, most of them with rules.
func TestOrderDrawn(t *testing.T) {
	d := drawn(1)
	met := map[api.Errno]int{}
	for range 20_000 {
		many := 2 + d.below(api.MaxItems-1)
		s := "struct a { "
		for i := range many {
			n := "x" + strconv.Itoa(i)
			other := "x" + strconv.Itoa(d.below(many))
			switch d.below(5) {
			case 0:
				s += "u8 " + n + "; "
			case 1:
				s += "u8 " + n + "[2]; "
			case 2:
				s += "u8 " + n + " = " + d.one("size ", "count ") + other + "; "
			default:
				s += d.over(n, many)
			}
		}
		met[asTold(t, s+"}")]++
	}
	for _, e := range []api.Errno{api.OK, api.ErrFalse, api.ErrState, api.ErrCycle} {
		if met[e] < 100 {
			t.Errorf("error %d is met %d times", e, met[e])
		}
	}
}

// count is an expression of a few names.
func (d *drawn) count() string {
	return d.one("1", "a", "b", "c", "a + b", "(c - 1) * a", "0x7fffffffffffffff", "2 == b | d")
}

// items is the text of a few items, of few names.
func (d *drawn) items(deep int) string {
	s := ""
	for range d.below(5) {
		n := d.one("a", "b", "c", "d", "e", "f", "g", "h", "i", "j", "k", "l")
		switch d.below(9) {
		case 0:
			if deep > 0 {
				s += "when " + d.count() + " { " + d.items(deep-1) + "} "
			}
		case 1:
			s += "bytes " + n + "[" + d.count() + "]; "
		case 2:
			s += d.one("s", "t", "t", "v") + " " + n + d.one("", "["+d.count()+"]") + "; "
		case 3:
			s += "i16be " + n + "[" + d.count() + "]; "
		case 4:
			s += "u16le " + n + " = " + d.one("size ", "count ") + d.one("a", "b", "c", "d") + "; "
		case 5:
			s += d.one("u32le ", "u32be ", "i32le ") + n + " = check " + d.one("a", "b", "c", "d") + d.one("", " e", " b") + "; "
		default:
			s += "u8 " + n + "; "
		}
	}
	return s
}

// 18.1: drawn templates of several structs, with names that several of them have.
func TestCheckDrawn(t *testing.T) {
	d := drawn(2)
	met := map[api.Errno]int{}
	for range 40_000 {
		s := ""
		for _, name := range []string{"t", "s", d.one("u", "v", "t"), d.one("w", "s")} {
			s += "struct " + name + " { " + d.items(2) + "} "
		}
		met[asTold(t, s)]++
	}
	for _, e := range []api.Errno{api.OK, api.ErrTwice, api.ErrMissing, api.ErrName, api.ErrFalse, api.ErrOrder, api.ErrState} {
		if met[e] < 10 {
			t.Errorf("error %d is met %d times", e, met[e])
		}
	}
}

// order holds Order of the last struct of a text against what is wanted.
func order(t *testing.T, s string, want ...int) {
	t.Helper()
	fit(t, s)
	l := read(t, s)
	if got := Order(l[len(l)-1].Items); !slices.Equal(got, want) {
		t.Errorf("Order of %q = %v, want %v", s, got, want)
	}
}

// 18.2: sizes and counts, rising; then checks, each behind those over which it is.
func TestOrder(t *testing.T) {
	if got := Order(nil); len(got) != 0 {
		t.Errorf("Order of no items = %v", got)
	}
	order(t, "struct a {}")
	order(t, "struct s {} struct a { u8 n; u8 m[2]; bytes b[1]; s x; when 1 { u8 k = size j; u8 j; } }")
	order(t, "struct a { u8 n = size b; bytes b[n]; }", 0)
	order(t, "struct a { bytes b[2]; u8 n = size b; }", 1)
	order(t, "struct a { u8 n = size b; u8 b[2]; u8 m = count b; u8 k = size m; }", 0, 2, 3)
	order(t, "struct a { u8 n = size m; u8 m = size n; }", 0, 1)
	order(t, "struct a { u32le c = check b; u8 n = size b; u8 b[2]; u32le d = check b; u8 m = count b; }", 1, 4, 0, 3)
	// Checks over Checks that stand ahead of them, and behind them.
	order(t, "struct a { u8 b; u32le c = check b; u32le d = check c; u32le e = check b d; }", 1, 2, 3)
	order(t, "struct a { u32le c = check d; u32le d = check e; u32le e = check b; u8 b; }", 2, 1, 0)
	order(t, "struct a { u32le c = check d e; u32le d = check b; u32le e = check b; u8 b; }", 1, 2, 0)
	order(t, "struct a { u32le c = check e; u32le d = check b; u32le e = check b; u8 b; }", 1, 2, 0)
	// Each time from the first one on: one for which another one waited comes ahead of those behind it.
	order(t, "struct a { u32le c = check d; u32le d = check b; u32le e = check b; u8 b; }", 1, 0, 2)
	order(t, "struct a { u32le c = check f; u32le d = check b; u32le e = check d; u32le f = check e; u32le g = check b; u8 b; }", 1, 2, 3, 0, 4)
	order(t, "struct a { u32le c = check d; u32le d = check f; u32le e = check b; u32le f = check b; u32le g = check b; u8 b; }", 2, 3, 1, 0, 4)
	order(t, "struct a { u32le c = check x z; u8 x; u32le y = check w; u8 z; u8 w = size z; }", 4, 2, 0)
	order(t, "struct top { u32be c = check a b; u8 a; u8 n = size b; bytes b[n]; u32le d = check c b; }", 2, 0, 4)
	// A sum over a size doesn't wait, for it is there; a size of a check neither; nor what a when has.
	order(t, "struct a { u32le c = check n; u8 n = size d; u32le d = check b; u8 b; }", 1, 0, 2)
	order(t, "struct a { u32le c = check b d; u8 b; when 1 { u32le e = check f; u8 f; } u8 d; }", 0)
	// A when's items have an order of their own.
	l := read(t, "struct a { u8 z; when 1 { u32le c = check d; u32le d = check b; u8 b; u8 n = size b; } }")
	if got := Order(l[0].Items[1].Items); !slices.Equal(got, []int{3, 1, 0}) {
		t.Errorf("Order of a when's items = %v", got)
	}
	// As many as there may be, each waiting for the next one, and none waiting.
	long, free := "struct a { ", "struct a { "
	var back, rising []int
	for i := range api.MaxItems - 1 {
		long += "u32le c" + strconv.Itoa(i) + " = check c" + strconv.Itoa(i+1) + "; "
		free += "u32le c" + strconv.Itoa(i) + " = check b; "
		back, rising = append(back, api.MaxItems-2-i), append(rising, i)
	}
	order(t, long+"u8 c15; }", back...)
	order(t, free+"u8 b; }", rising...)
}

// moved is items with other places.
func moved(l []api.Item, to func(at int) int) {
	var tree func(x *api.Expr)
	tree = func(x *api.Expr) {
		if x != nil {
			x.At = to(x.At)
			tree(x.Left)
			tree(x.Right)
		}
	}
	for i := range l {
		l[i].At = to(l[i].At)
		tree(l[i].Count)
		moved(l[i].Items, to)
	}
}

// 18.1, 18.2: whatever the places are, the same is told, at them.
func TestPlaces(t *testing.T) {
	for _, to := range []func(at int) int{
		func(at int) int { return 0 }, func(at int) int { return -1 }, func(at int) int { return -at }, func(at int) int { return math.MaxInt - at }, func(at int) int { return math.MinInt + at }, func(at int) int { return at * 1_000_000_007 },
	} {
		d := drawn(3)
		for range 2000 {
			s := "struct s {} struct t { " + d.items(2) + "} struct " + d.one("a", "b", "s") + " { " + d.items(1) + "}"
			l := read(t, s)
			want, where := checkTold(l)
			for i := range l {
				l[i].At = to(l[i].At)
				moved(l[i].Items, to)
			}
			if want != api.OK {
				where = to(where)
			}
			same(t, s, l, want, where)
			if back := read(t, s); want == api.OK && !slices.Equal(Order(l[1].Items), Order(back[1].Items)) {
				t.Errorf("Order in %q hangs on places", s)
			}
		}
	}
}

// P4: the same is told each time; nothing that is handed in is written into, nor what stands behind it; what was told is the caller's.
func TestAgain(t *testing.T) {
	good := "struct s { u8 x; } struct a { u32le c = check d; u32le d = check b; u8 n = size b; bytes b[n]; when n { u8 k = size j; s j; } }"
	for _, s := range []string{good, strings.Replace(good, "bytes b[n]", "bytes b[m]", 1), strings.Replace(good, "check b", "check c", 1), strings.Replace(good, "s j", "s c", 1)} {
		l, want := read(t, s), read(t, s)
		room := slices.Grow(l, 1)
		items := slices.Grow(l[1].Items, 1)
		room[1].Items = items
		first := Check(room)
		for range 2 {
			if err := Check(room); !reflect.DeepEqual(err, first) {
				t.Errorf("Check of %q = %v, then %v", s, first, err)
			}
			Order(room[1].Items)
		}
		if !reflect.DeepEqual(room, want) || !reflect.DeepEqual(room[:3][2], api.Type{}) || !reflect.DeepEqual(items[:6][5], api.Item{}) {
			t.Errorf("Check writes into what it is handed, of %q", s)
		}
	}
	l := read(t, good)
	once := Order(l[1].Items)
	for i := range once {
		once[i] = -1
	}
	_ = append(once[:0], 7, 7, 7)
	if got := Order(l[1].Items); !slices.Equal(got, []int{2, 1, 0}) {
		t.Errorf("Order = %v, behind what was made of what it told", got)
	}
}

// P1: Order of what Check doesn't take, and Check of what Parse never tells, end, and don't panic.
func TestOdd(t *testing.T) {
	d := drawn(4)
	for range 5000 {
		l := read(t, "struct a { "+d.items(1)+"}")
		Order(l[0].Items)
	}
	for _, s := range []string{"u32le c = check d; u32le d = check c;", "u32le c = check c;", "u32le c = check x y;", "u32le c = check b x; u8 b;", "u32le c = check x b; u8 b;", "u32le c = check e b; u8 b; u8 e;", "u8 c = size x;"} {
		Order(read(t, "struct a { "+s+" }")[0].Items)
	}
	ends := []int{math.MinInt, -1, 0, 1, 2, 3, 4, 5, math.MaxInt}
	for _, a := range ends {
		for _, b := range ends {
			x := api.Item{Kind: a, Rule: b, Width: b, First: "x", Last: "y"}
			l := []api.Item{x, {Kind: b, Name: "x", Rule: a}, {Kind: api.When, Items: []api.Item{x}}}
			Check([]api.Type{{At: a, Items: l}, {}})
			Order(l)
		}
	}
}
