package parse_test

import (
	"math"
	"slices"
	"strconv"
	"strings"
	"testing"

	"farwriter/api"
	"farwriter/parse"
)

// expectWrite also has what is written read, in SGround, as just that act.
func expectWrite(t *testing.T, a api.Act, want string) {
	t.Helper()
	runes, e := parse.Write(a)
	if !slices.Equal(runes, runesOf(want)) || e != api.OK {
		t.Errorf("Write(%s) = %s, %d; want %q", show(a), show(runes), e, want)
		return
	}
	expectFeed(t, api.Parser{}, runes, api.Parser{}, told(a))
}

func expectNoWrite(t *testing.T, a api.Act) {
	t.Helper()
	if runes, e := parse.Write(a); len(runes) != 0 || e != api.ErrArg {
		t.Errorf("Write(%s) = %s, %d; want ErrArg", show(a), show(runes), e)
	}
}

func expectWriteIf(t *testing.T, ok bool, a api.Act, want string) {
	t.Helper()
	if ok {
		expectWrite(t, a, want)
	} else {
		expectNoWrite(t, a)
	}
}

func TestWrite(t *testing.T) {
	for _, c := range []struct {
		a    api.Act
		want string
	}{
		{print1('a'), "a"},
		{print1(' '), " "},
		{print1(0x10ffff), "\U0010ffff"},
		{ctrl1(0), "\x00"},
		{ctrl1(13), "\r"},
		{esc1("", '7'), "\x1b7"},
		{esc1("(", '0'), "\x1b(0"},
		{esc1(" /", 'P'), "\x1b /P"},
		{csi1(0, "", 'H', 1, 2), "\x1b[1;2H"},
		{csi1(0, "", 'm', -1), "\x1b[m"},
		{csi1(0, "", 'm', 0, -1), "\x1b[0;m"},
		{csi1('?', "", 'h', 25), "\x1b[?25h"},
		{csi1('>', " $", 'p', -1, 16383), "\x1b[>;16383 $p"},
		{csi1('<', "!", '@', -1), "\x1b[<!@"},
		{osc1(""), "\x1b]\a"},
		{osc1("0;title \u20ac \ufffd"), "\x1b]0;title \u20ac \ufffd\a"},
	} {
		expectWrite(t, c.a, c.want)
	}
	expectWrite(t, api.Act{Kind: api.AEsc, Code: 'c', Args: []int{}}, "\x1bc")
}

func TestWriteEachPrint(t *testing.T) {
	for _, c := range append(manyRunes(), 0x2028, 0x3000) {
		ok := 32 <= c && c <= most && !(127 <= c && c <= 159) && !(55296 <= c && c <= 57343)
		want := ""
		if ok {
			want = string(rune(c))
		}
		expectWriteIf(t, ok, api.Act{Kind: api.APrint, Code: c}, want)
	}
	for c := 0xd700; c < 0xe100; c++ {
		expectWriteIf(t, c < 0xd800 || c > 0xdfff, api.Act{Kind: api.APrint, Code: c}, string(rune(c)))
	}
}

func TestWriteEachCtrl(t *testing.T) {
	for _, c := range manyRunes() {
		ok := 0 <= c && c <= 31 && c != 24 && c != 26 && c != 27
		expectWriteIf(t, ok, api.Act{Kind: api.ACtrl, Code: c}, string(rune(c&31)))
	}
}

func TestWriteEachEsc(t *testing.T) {
	for _, c := range manyRunes() {
		for _, inter := range []string{"", " ", "/", "(", " !", "//"} {
			ok := 48 <= c && c <= 126 && (inter != "" || !strings.Contains("[]PX^_", string(rune(c))))
			expectWriteIf(t, ok, api.Act{Kind: api.AEsc, Code: c, Inter: inter}, "\x1b"+inter+string(rune(c&127)))
		}
	}
}

func TestWriteEachCsi(t *testing.T) {
	for _, c := range manyRunes() {
		for _, inter := range []string{"", " ", "/", " !", "//"} {
			want := inter + string(rune(c&127))
			expectWriteIf(t, 64 <= c && c <= 126, csiOf(c, 0, inter, -1), "\x1b["+want)
			expectWriteIf(t, 64 <= c && c <= 126, csiOf(c, 62, inter, 3, -1), "\x1b[>3;"+want)
		}
		for _, inter := range []string{"", "!"} {
			mark := ""
			if c != 0 {
				mark = string(rune(c & 63))
			}
			expectWriteIf(t, c == 0 || 60 <= c && c <= 63, csiOf('m', c, inter, 4), "\x1b["+mark+"4"+inter+"m")
		}
	}
}

func csiOf(code, mark int, inter string, numbers ...int) api.Act {
	return api.Act{Kind: api.ACsi, Code: code, Mark: mark, Inter: inter, Args: numbers}
}

// TestWriteEachInter: no byte but from 32 to 47, and no more than two.
func TestWriteEachInter(t *testing.T) {
	for b := range 256 {
		one := string([]byte{byte(b)})
		ok := 32 <= b && b <= 47
		for _, inter := range []string{one, "!" + one, one + "!"} {
			expectWriteIf(t, ok, esc1(inter, 'x'), "\x1b"+inter+"x")
			expectWriteIf(t, ok, csi1(0, inter, 'x', 1), "\x1b[1"+inter+"x")
		}
		expectNoWrite(t, esc1("!!"+one, 'x'))
		expectNoWrite(t, csi1('?', "!!"+one, 'x', 1))
	}
	for _, n := range []int{3, 4, 5, 256, 257, 258, 65536, 65537, 65538} {
		expectNoWrite(t, esc1(strings.Repeat(" ", n), 'x'))
		expectNoWrite(t, csi1(0, strings.Repeat(" ", n), 'x', 1))
	}
}

func TestWriteNumbers(t *testing.T) {
	for _, n := range []int{0, 1, 9, 10, 16382, 16383} {
		expectWrite(t, csi1(0, "", 'm', n), "\x1b["+strconv.Itoa(n)+"m")
	}
	for _, n := range []int{math.MinInt, -3, -2, 16384, 65536, 65536 + 5, 1 << 32, 1<<32 + 5, 1<<32 - 1, math.MaxInt} {
		expectNoWrite(t, csi1(0, "", 'm', n))
		expectNoWrite(t, csi1(0, "", 'm', 1, n, 2))
	}
	expectNoWrite(t, csi1(0, "", 'm'))
	expectNoWrite(t, api.Act{Kind: api.ACsi, Code: 'm', Args: []int{}})
	for n := 1; n <= 70; n++ {
		ones := strings.Repeat("1;", n)[:2*n-1]
		expectWriteIf(t, n <= 32, csi1(0, "", 'm', slices.Repeat([]int{1}, n)...), "\x1b["+ones+"m")
		expectWriteIf(t, n <= 32, csi1('?', " ", 'm', slices.Repeat([]int{-1}, n)...), "\x1b[?"+strings.Repeat(";", n-1)+" m")
		fives := strings.Repeat("10000;", n)[:6*n-1]
		expectWriteIf(t, n <= 16, csi1('?', " !", 'm', slices.Repeat([]int{10000}, n)...), "\x1b[?"+fives+" !m")
	}
}

// TestWriteNumbersOfAHundredBytes, but of no more: a Mark, Inter and Code don't count.
func TestWriteNumbersOfAHundredBytes(t *testing.T) {
	for _, mark := range []rune{0, '?'} {
		for _, inter := range []string{"", "//"} {
			for first, length := range map[int]int{-1: 97, 1: 98, 12: 99, 123: 100, 1234: 101, 12345: 102} {
				numbers := slices.Concat([]int{first}, slices.Repeat([]int{16383}, 16), []int{-1})
				s := strings.Repeat(";16383", 16) + ";"
				if first >= 0 {
					s = strconv.Itoa(first) + s
				}
				if len(s) != length {
					t.Fatal(len(s), length)
				}
				head := "\x1b["
				if mark != 0 {
					head += string(mark)
				}
				expectWriteIf(t, length <= 100, csi1(mark, inter, 'm', numbers...), head+s+inter+"m")
			}
		}
	}
	expectNoWrite(t, csi1(0, "", 'm', slices.Repeat([]int{16383}, 32)...))
	expectNoWrite(t, csi1(0, "", 'm', make([]int, 1<<20)...))
}

func TestWriteEachText(t *testing.T) {
	for c := range 0x300 {
		ok := c >= 32 && !(127 <= c && c <= 159)
		one := string(rune(c))
		for _, s := range []string{one, "a" + one, one + "b", "\u20ac" + one + "\U0001f600"} {
			expectWriteIf(t, ok, osc1(s), "\x1b]"+s+"\a")
		}
	}
	for b := range 256 {
		one := string([]byte{byte(b)})
		for _, s := range []string{one, "a" + one + "b", "\u20ac" + one} {
			expectWriteIf(t, 32 <= b && b < 127, osc1(s), "\x1b]"+s+"\a")
		}
	}
	for _, s := range []string{"\u20ac"[:2], "\u20ac"[1:], "a\U0001f600"[:4], "\xed\xa0\x80", "\xed\xbf\xbf", "\xc0\x80", "\xc1\xbf", "\xe0\x80\x80", "\xf0\x80\x80\x80", "\xf4\x90\x80\x80", "\xf5\x80\x80\x80", "ok\xff", "\xfe ok"} {
		expectNoWrite(t, osc1(s))
	}
	for _, s := range []string{"\ufffd", "\ud7ff", "\ue000", "\uffff", "\U00010000", "\U0010ffff", "\u0100\u011b\u0107"} {
		expectWrite(t, osc1(s), "\x1b]"+s+"\a")
	}
}

// TestWriteLongTexts: no more than 256 bytes, however few runes these are.
func TestWriteLongTexts(t *testing.T) {
	for _, c := range []string{"x", "\u00e4", "\u20ac", "\U0001f600", "\ufffd"} {
		for n := 60; n <= 300; n++ {
			s := strings.Repeat(c, n)
			expectWriteIf(t, len(s) <= 256, osc1(s), "\x1b]"+s+"\a")
		}
		expectNoWrite(t, osc1(strings.Repeat(c, 1<<16)))
	}
}

// TestWriteRefusesFields that have no place in the Kind.
func TestWriteRefusesFields(t *testing.T) {
	for _, a := range []api.Act{print1('a'), ctrl1(10), esc1("", 'x'), esc1("(", '0'), csi1('?', "!", 'x', 1, 2), osc1("text"), osc1("")} {
		plain := a.Kind == api.APrint || a.Kind == api.ACtrl
		for _, n := range []int{1, 60, 63, -1, math.MinInt, 1 << 32} {
			marked, coded := a, a
			marked.Mark, coded.Code = n, n
			if a.Kind != api.ACsi {
				expectNoWrite(t, marked)
			}
			if a.Kind == api.AOsc {
				expectNoWrite(t, coded)
			}
		}
		for _, s := range []string{"!", "\x00", "(("} {
			inter, text := a, a
			inter.Inter, text.Text = s, s
			if plain || a.Kind == api.AOsc {
				expectNoWrite(t, inter)
			}
			if a.Kind != api.AOsc {
				expectNoWrite(t, text)
			}
		}
		for _, l := range [][]int{{0}, {-1}, {1, 2}, {-7}} {
			numbers := a
			numbers.Args = l
			if a.Kind != api.ACsi {
				expectNoWrite(t, numbers)
			}
		}
	}
}

func TestWriteRefusesKinds(t *testing.T) {
	for _, n := range append(noNumbers(), 0, 6, 7, 8, 255, 256+1, 65536+4, 1<<32+5) {
		if 1 <= n && n <= 5 {
			continue
		}
		expectNoWrite(t, api.Act{Kind: n})
		expectNoWrite(t, api.Act{Kind: n, Code: 'a'})
		expectNoWrite(t, api.Act{Kind: n, Code: 10})
		expectNoWrite(t, api.Act{Kind: n, Text: "x"})
		expectNoWrite(t, api.Act{Kind: n, Code: 'm', Args: []int{1}})
	}
}

// TestWriteWhatWasRead: each act that runes made is written, and read as it was; but what can't be.
func TestWriteWhatWasRead(t *testing.T) {
	_, acts, _ := parse.Feed(api.Parser{}, longRow())
	wrote := 0
	for _, a := range acts {
		runes, e := parse.Write(a)
		if a.Kind == api.ADrop || a.Code == 0xd800 || len(a.Args) == 32 {
			continue
		}
		wrote++
		if e != api.OK {
			t.Errorf("Write(%s) = %d", show(a), e)
		}
		expectFeed(t, api.Parser{}, runes, api.Parser{}, told(a))
	}
	if wrote < 30 {
		t.Errorf("%d acts of %d", wrote, len(acts))
	}
}
