package lz

import (
	"errors"
	"fmt"
	"strings"
	"testing"

	"escritoire/api"
)

// drawn is numbers that look drawn, the same each time.
type drawn uint64

func (d *drawn) below(most int) int {
	*d = *d*6364136223846793005 + 1442695040888963407
	return int(uint64(*d>>33) % uint64(most))
}

// text is just so many bytes, each of them one of kinds.
func (d *drawn) text(n int, kinds string) string {
	b := make([]byte, n)
	for i := range b {
		b[i] = kinds[d.below(len(kinds))]
	}
	return string(b)
}

// texts goes through all texts of up to so many bytes, each of them one of kinds.
func texts(most int, kinds string, do func(s string)) {
	level := []string{""}
	for n := 0; ; n++ {
		var next []string
		for _, s := range level {
			do(s)
			for i := range len(kinds) {
				next = append(next, s+kinds[i:i+1])
			}
		}
		if n == most {
			return
		}
		level = next
	}
}

// every is all bytes that there are, once each.
func every() string {
	b := make([]byte, 256)
	for i := range b {
		b[i] = byte(i)
	}
	return string(b)
}

// unlike is so many bytes, from the first kind on, of which no three together stand twice.
func unlike(t *testing.T, n int, first byte) string {
	t.Helper()
	stood := map[string]int{}
	b := []byte{first, first}
	for len(b) < n {
		from := len(b)
		// The greatest one first: so all threes of 20 kinds are come to.
		for k := 19; k >= 0 && len(b) == from; k-- {
			three := string(append(b[from-2:from:from], first+byte(k)))
			if stood[three] == 0 {
				stood[three]++
				b = append(b, first+byte(k))
			}
		}
		if len(b) == from {
			t.Fatal("no bytes are left")
		}
	}
	return string(b[:n])
}

// plain is bytes as PLAIN pieces tell them, as many together as may be.
func plain(s string) string {
	p := ""
	for len(s) > 128 {
		p += "\x7f" + s[:128]
		s = s[128:]
	}
	if s == "" {
		return p
	}
	return p + string([]byte{byte(len(s) - 1)}) + s
}

// copied is the piece of a text of so many bytes that begins so far ahead.
func copied(size, far int) string {
	return string([]byte{byte(125 + size), byte(far / 256), byte(far % 256)})
}

// errno is the Errno of an error that has no place; -2, if it has one.
func errno(err error) api.Errno {
	var a *api.At
	if errors.As(err, &a) {
		return -2
	}
	return api.Tell(err)
}

// sameText holds a text, and its error, against what is wanted.
func sameText(t *testing.T, what, got string, err error, want string, wrong api.Errno) {
	t.Helper()
	if errno(err) != wrong {
		t.Errorf("%.300s: error %v, want %v", what, err, wrong)
	}
	if got != want {
		t.Errorf("%.300s = %.300q of %d bytes, want %.300q of %d", what, got, len(got), want, len(want))
	}
}

// packTold is Pack, as the words tell it: each length and each place is tried.
func packTold(s string) string {
	p, together := "", ""
	for at := 0; at < len(s); {
		size, far := tried(s, at)
		if size == 0 {
			together += s[at : at+1]
			at++
			continue
		}
		p += plain(together) + copied(size, far)
		together = ""
		at += size
	}
	return p + plain(together)
}

// tried is the longest text at a place that stands ahead of it, too, and how far.
func tried(s string, at int) (size, far int) {
	for size = 130; size >= 3; size-- {
		for far = 1; far <= 1023 && far <= at && at+size <= len(s); far++ {
			if s[at-far:at-far+size] == s[at:at+size] {
				return size, far
			}
		}
	}
	return 0, 0
}

// unpackTold is Unpack, as the words tell it.
func unpackTold(p string) (string, api.Errno) {
	told := ""
	for at := 0; at < len(p); {
		n := int(p[at])
		if n < 128 {
			if at+1+n+1 > len(p) {
				return "", api.ErrForm
			}
			told += p[at+1 : at+1+n+1]
			at += 1 + n + 1
		} else {
			if at+3 > len(p) {
				return "", api.ErrForm
			}
			far := int(p[at+1])*256 + int(p[at+2])
			if far == 0 || far > 1023 || far > len(told) {
				return "", api.ErrForm
			}
			for range n - 125 {
				told += told[len(told)-far : len(told)-far+1]
			}
			at += 3
		}
		if len(told) > 4000 {
			return "", api.ErrLimit
		}
	}
	return told, api.OK
}

// packs holds Pack against what is wanted, and Unpack of that against the text.
func packs(t *testing.T, s, want string) {
	t.Helper()
	got, err := Pack(s)
	sameText(t, fmt.Sprintf("Pack(%.100q)", s), got, err, want, api.OK)
	back, err := Unpack(want)
	sameText(t, fmt.Sprintf("Unpack(%.100q)", want), back, err, s, api.OK)
}

// 12.1: texts, and how they are told, reckoned by hand.
func TestPackTold(t *testing.T) {
	for _, c := range []struct{ s, want string }{
		{"", ""},
		{"a", "\x00a"},
		{"ab", "\x01ab"},
		{"\x00", "\x00\x00"},
		{"\xff\x80", "\x01\xff\x80"},
		// What stands again has 3 bytes at least.
		{"aa", "\x01aa"},
		{"aaa", "\x02aaa"},
		{"abxab", "\x04abxab"},
		{"abxaby", "\x05abxaby"},
		{"abcabc", "\x02abc\x80\x00\x03"},
		{"abcxabc", "\x03abcx\x80\x00\x04"},
		{"abcdxabcd", "\x04abcdx\x81\x00\x05"},
		{"\x00\xff\x00\x01\x00\xff\x00", "\x03\x00\xff\x00\x01\x80\x00\x04"},
		// Texts that stand again over themselves.
		{"aaaa", "\x00a\x80\x00\x01"},
		{"aaaaaaaa", "\x00a\x84\x00\x01"},
		{"\x00\x00\x00\x00\x00", "\x00\x00\x81\x00\x01"},
		{"ababa", "\x01ab\x80\x00\x02"},
		{"abababab", "\x01ab\x83\x00\x02"},
		{"abcabcabca", "\x02abc\x84\x00\x03"},
		// Of several the longest one, of these the nearest one.
		{"abcxabcyabc", "\x03abcx\x80\x00\x04\x00y\x80\x00\x04"},
		{"abcdxabcyabcd", "\x04abcdx\x80\x00\x05\x00y\x81\x00\x09"},
		{"abcxabcdyabcd", "\x03abcx\x80\x00\x04\x01dy\x81\x00\x05"},
		{"abcdxabcdyabcd", "\x04abcdx\x81\x00\x05\x00y\x81\x00\x05"},
		// From the left: the first one is taken, though a longer one begins behind it.
		{"abcxbcdeyabcde", "\x08abcxbcdey\x80\x00\x09\x01de"},
		{"abcxbcdefyabcdef", "\x09abcxbcdefy\x80\x00\x0a\x80\x00\x07"},
		// A text that begins in what was told by where it stood.
		{"abcabcabcd", "\x02abc\x83\x00\x03\x00d"},
		{"abcxabcy" + "cxab", "\x03abcx\x80\x00\x04\x00y\x81\x00\x06"},
		{"abcxabcy" + "cyz", "\x03abcx\x80\x00\x04\x03ycyz"},
	} {
		packs(t, c.s, c.want)
		if told := packTold(c.s); told != c.want {
			t.Errorf("packTold(%q) = %q, want %q", c.s, told, c.want)
		}
	}
}

// 12.1: a text that stands again has up to 130 bytes; what is left is looked at anew.
func TestPackLongest(t *testing.T) {
	for n := 2; n <= 256; n++ {
		s := every()[:n]
		want := plain(s)
		switch {
		case n < 3:
			want = plain(s + s)
		case n <= 130:
			want += copied(n, n)
		case n < 133:
			want += copied(130, n) + plain(s[130:])
		default:
			want += copied(130, n) + copied(n-130, n)
		}
		packs(t, s+s, want)
	}
	for n := range 400 {
		s := strings.Repeat("a", n)
		want := ""
		if n > 0 {
			want, n = "\x00a", n-1
		}
		for n >= 130 {
			want, n = want+copied(130, 1), n-130
		}
		switch {
		case n >= 3:
			want += copied(n, 1)
		case len(want) == 2:
			want = plain(s)
		default:
			want += plain(s[:n])
		}
		packs(t, s, want)
	}
}

// 12.1: a text that stands again begins up to 1023 bytes ahead, and is told of from there alone.
func TestPackFarthest(t *testing.T) {
	for _, far := range []int{3, 4, 255, 256, 257, 511, 512, 1022, 1023, 1024, 1025, 2047, 2048} {
		between := unlike(t, far-3, 100)
		s := "abc" + between + "abc"
		want := plain(s)
		if far <= 1023 {
			want = plain("abc"+between) + copied(3, far)
		}
		packs(t, s, want)
	}
	// The bytes y and z, so that nothing of what stands ahead stands again.
	first, second := unlike(t, 1018, 100), "x"+unlike(t, 300, 0)
	for _, c := range []struct{ first, second, want string }{
		// The longer one is too far, a shorter one isn't.
		{first[:1000], second[:100], copied(3, 105) + plain("de")},
		// Just at the edge the farther one is the longer one.
		{first[:900], second[:112], copied(5, 1023)},
		{first[:900], second[:113], copied(3, 118) + plain("de")},
		{first[:1], second[:1], copied(5, 13)},
	} {
		ahead := "abcde" + c.first + "y"
		packs(t, ahead+"abc"+c.second+"zzabcde", plain(ahead)+copied(3, len(ahead))+plain(c.second+"zz")+c.want)
	}
	ahead := "abcde" + first[:1017] + "y"
	packs(t, ahead+"abcde"+second+"abcde", plain(ahead)+copied(5, 1023)+plain(second)+copied(5, 306))
}

// 12.1: PLAIN bytes are told together, up to 128, as far as no text that stood already parts them.
func TestPackPlain(t *testing.T) {
	s := unlike(t, 600, 100)
	for n := range 600 {
		packs(t, s[:n], plain(s[:n]))
	}
	for _, n := range []int{3, 126, 127, 128, 129, 130, 255, 256, 257} {
		for _, m := range []int{0, 1, 126, 127, 128, 129, 255, 256, 257} {
			// What stands again between them is a part of the first ones.
			behind := unlike(t, m, 0)
			packs(t, s[:n]+s[:3]+behind, plain(s[:n])+copied(3, n)+plain(behind))
		}
	}
	if p, err := Pack(s[:128]); err != nil || len(p) != 129 || p[0] != 127 {
		t.Errorf("128 PLAIN bytes: %d bytes, %v", len(p), err)
	}
	if p, err := Pack(s[:129]); err != nil || len(p) != 131 || p[0] != 127 || p[129] != 0 {
		t.Errorf("129 PLAIN bytes: %d bytes, %v", len(p), err)
	}
}

// 12.1: MaxBytes bytes are told, one more aren't.
func TestPackLimit(t *testing.T) {
	for _, s := range []string{unlike(t, api.MaxBytes+1, 100), strings.Repeat("a", api.MaxBytes+1), strings.Repeat("ab", api.MaxBytes)} {
		for _, n := range []int{api.MaxBytes - 1, api.MaxBytes} {
			p, err := Pack(s[:n])
			if errno(err) != api.OK {
				t.Errorf("Pack of %d bytes: %v", n, err)
			}
			back, err := Unpack(p)
			sameText(t, "Unpack of what Pack tells", back, err, s[:n], api.OK)
		}
		p, err := Pack(s[:api.MaxBytes+1])
		sameText(t, "Pack of one more", p, err, "", api.ErrLimit)
	}
	p, err := Pack(strings.Repeat("a", 1<<22))
	sameText(t, "Pack of many more", p, err, "", api.ErrLimit)
	s := unlike(t, api.MaxBytes, 100)
	p, err = Pack(s)
	sameText(t, "Pack of what never stands again", p, err, plain(s), api.OK)
}

// 12.1, 12.2: all short texts, and longer ones, are told as the words have it, and back.
func TestPackAll(t *testing.T) {
	hold := func(s string) {
		t.Helper()
		packs(t, s, packTold(s))
	}
	texts(13, "ab", hold)
	texts(8, "a\x00\xff", hold)
	d := drawn(1)
	for i := range 1000 {
		kinds := []string{"ab", "abc", "\x00\x80\xff", every()}[i%4]
		s := d.text(d.below(40), kinds) + strings.Repeat(d.text(d.below(12), kinds), d.below(30)) + d.text(d.below(10), kinds)
		hold(s)
	}
	for i := range 8 {
		kinds := []string{"a", "ab", "abcd", "abcdefghijklmnop"}[i%4]
		hold(d.text(2000+i*100, kinds))
	}
	for range 6 {
		// A few parts again and again, so that the same stands nearer and farther, up to where it is too far.
		var some []string
		for range 4 {
			some = append(some, d.text(1+d.below(200), "abcde"))
		}
		s := ""
		for len(s) < 3000 {
			s += some[d.below(4)][d.below(2):]
		}
		hold(s)
	}
}

// 12.2: pieces, and what they tell, reckoned by hand; also ones that Pack would not tell.
func TestUnpackTold(t *testing.T) {
	for _, c := range []struct {
		p, want string
		wrong   api.Errno
	}{
		{"", "", api.OK},
		{"\x00a", "a", api.OK},
		{"\x00a\x00b\x00c", "abc", api.OK},
		{"\x01ab\x00c\x80\x00\x03", "abcabc", api.OK},
		{"\x02abc\x00a\x00b\x00c", "abcabc", api.OK},
		// A farther one, and a shorter one.
		{"\x0babcxabcyabcz\x80\x00\x0c", "abcxabcyabczabc", api.OK},
		{"\x03abcd\x80\x00\x04\x00d", "abcdabcd", api.OK},
		{"\x00a\x80\x00\x01\x80\x00\x01", "aaaaaaa", api.OK},
		{"\x01ab\x83\x00\x02", "abababab", api.OK},
		{"\x01ab\x80\x00\x01", "abbbb", api.OK},
		{"\x00a\xff\x00\x01", strings.Repeat("a", 131), api.OK},
		{"\x01\x00\xff\x82\x00\x02", "\x00\xff\x00\xff\x00\xff\x00", api.OK},
		// Not whole.
		{"\x00", "", api.ErrForm},
		{"\x01a", "", api.ErrForm},
		{"\x7f", "", api.ErrForm},
		{"\x7f" + strings.Repeat("a", 127), "", api.ErrForm},
		{"\x7f" + strings.Repeat("a", 128), strings.Repeat("a", 128), api.OK},
		{"\x7f" + strings.Repeat("a", 129), "", api.ErrForm},
		{"\x02abc\x80", "", api.ErrForm},
		{"\x02abc\x80\x00", "", api.ErrForm},
		{"\x02abc\xff\x00", "", api.ErrForm},
		{"\x02abc\x80\x00\x03\x05", "", api.ErrForm},
		// 0 bytes ahead, just as many as were told, one more.
		{"\x02abc\x80\x00\x00", "", api.ErrForm},
		{"\x02abc\x80\x00\x01", "abcccc", api.OK},
		{"\x02abc\x80\x00\x03", "abcabc", api.OK},
		{"\x02abc\x80\x00\x04", "", api.ErrForm},
		{"\x02abc\x80\x01\x03", "", api.ErrForm},
		{"\x02abc\x80\x03\x00", "", api.ErrForm},
		{"\x80\x00\x01", "", api.ErrForm},
		{"\x80\x00\x00", "", api.ErrForm},
		{"\x80\xff\xff", "", api.ErrForm},
		{"\xff\x00\x01", "", api.ErrForm},
	} {
		got, err := Unpack(c.p)
		sameText(t, fmt.Sprintf("Unpack(%.100q)", c.p), got, err, c.want, c.wrong)
	}
}

// 12.2: from how far ahead a text may begin, whatever was told.
func TestUnpackFar(t *testing.T) {
	s := unlike(t, 3000, 100)
	for _, told := range []int{1, 2, 255, 256, 1022, 1023, 1024, 1025, 2000, 3000} {
		for _, far := range []int{0, 1, 2, 255, 256, 257, 1022, 1023, 1024, 1025, told - 1, told, told + 1, 32768, 65535} {
			for _, size := range []int{3, 4, 129, 130} {
				want, wrong := "", api.ErrForm
				if far >= 1 && far <= 1023 && far <= told {
					want, wrong = s[:told], api.OK
					for range size {
						want += want[len(want)-far : len(want)-far+1]
					}
				}
				got, err := Unpack(plain(s[:told]) + copied(size, far))
				sameText(t, fmt.Sprint("Unpack behind ", told, " from ", far, " of ", size), got, err, want, wrong)
			}
		}
	}
}

// 12.2: what Pack tells, cut short at each of its bytes.
func TestUnpackCut(t *testing.T) {
	for _, s := range []string{"abcabcabcdabcxabcyzzzzzzz", unlike(t, 300, 100) + strings.Repeat("x", 500), every() + every()} {
		p, err := Pack(s)
		if err != nil {
			t.Fatal(err)
		}
		for i := range p {
			want, wrong := unpackTold(p[:i])
			got, err := Unpack(p[:i])
			sameText(t, fmt.Sprintf("Unpack(%.100q)", p[:i]), got, err, want, wrong)
			if wrong == api.OK && !strings.HasPrefix(s, want) {
				t.Errorf("cut at %d: %q does not begin %q", i, want, s)
			}
		}
	}
}

// 12.2: just MaxBytes bytes may be told; what is wrong first is answered.
func TestUnpackLimit(t *testing.T) {
	s := strings.Repeat("ab", 2000)
	full := plain(s)
	wrong := "\x80\x00\x00"
	for _, c := range []struct {
		what, p, want string
		wrong         api.Errno
	}{
		{"just MaxBytes", full, s, api.OK},
		{"one fewer", plain(s[1:]), s[1:], api.OK},
		{"one more", full + "\x00a", "", api.ErrLimit},
		{"one more, together", plain(s + "a"), "", api.ErrLimit},
		{"just MaxBytes by a text that stood", plain(s[:3997]) + copied(3, 2), s, api.OK},
		{"just MaxBytes by a long one", plain(s[:3870]) + copied(130, 2), s, api.OK},
		{"one more by a text that stood", plain(s[:3998]) + copied(3, 2), "", api.ErrLimit},
		{"many more by a long one", full + copied(130, 1), "", api.ErrLimit},
		{"very many more", strings.Repeat(full, 50), "", api.ErrLimit},
		{"a wrong piece behind just MaxBytes", full + wrong, "", api.ErrForm},
		{"a wrong piece behind too many", full + "\x00a" + wrong, "", api.ErrLimit},
		{"too many behind a wrong piece", "\x00a" + wrong + full + full, "", api.ErrForm},
		{"a piece of too many that is not whole", full + "\x01a", "", api.ErrForm},
		{"a piece of too many that begins too far ahead", full + copied(3, 1024), "", api.ErrForm},
		{"a piece of too many that is cut short", full + "\x80\x00", "", api.ErrForm},
		{"cut short behind too many", full + copied(3, 2) + "\x80", "", api.ErrLimit},
	} {
		got, err := Unpack(c.p)
		sameText(t, c.what, got, err, c.want, c.wrong)
	}
	// Few pieces tell very much.
	got, err := Unpack("\x00a" + strings.Repeat("\xff\x00\x01", 1_000_000))
	sameText(t, "very much", got, err, "", api.ErrLimit)
}

// 12.2: all short texts as pieces, and drawn ones, tell what the words have it.
func TestUnpackAll(t *testing.T) {
	hold := func(p string) {
		t.Helper()
		want, wrong := unpackTold(p)
		got, err := Unpack(p)
		sameText(t, fmt.Sprintf("Unpack(%.100q)", p), got, err, want, wrong)
	}
	texts(7, "\x00\x01\x02\x80\x81", hold)
	for i := range 256 {
		for k := range 256 {
			hold(string([]byte{0, 'a', byte(i), byte(k), 1}))
			hold("\x03abcd\x80" + string([]byte{byte(i), byte(k)}))
		}
	}
	d := drawn(2)
	for range 3000 {
		var b strings.Builder
		for range d.below(60) {
			switch d.below(12) {
			case 0:
				b.WriteString(d.text(1, every()))
			case 1:
				b.WriteString(copied(3+d.below(128), d.below(1200)))
			case 2, 3, 4:
				b.WriteString(plain(d.text(d.below(300), "ab\x00\xff")))
			default:
				b.WriteString(copied(3+d.below(128), 1+d.below(20)))
			}
		}
		hold(b.String())
	}
}

// P4: an answer hangs on what is handed in alone.
func TestAgain(t *testing.T) {
	s := strings.Repeat("abcabd", 100) + every()
	p, _ := Pack(s)
	for range 20 {
		if q, err := Pack(s); q != p || err != nil {
			t.Fatalf("Pack tells something else: %q, %v", q, err)
		}
		if u, err := Unpack(p); u != s || err != nil {
			t.Fatalf("Unpack tells something else: %q, %v", u, err)
		}
	}
}
