package parse_test

import (
	"math"
	"slices"
	"strings"
	"testing"

	"farwriter/api"
	"farwriter/parse"
)

func print1(c rune) api.Act { return api.Act{Kind: api.APrint, Code: int(c)} }

func ctrl1(c rune) api.Act { return api.Act{Kind: api.ACtrl, Code: int(c)} }

func esc1(inter string, c rune) api.Act {
	return api.Act{Kind: api.AEsc, Code: int(c), Inter: inter}
}

func csi1(mark rune, inter string, c rune, numbers ...int) api.Act {
	return api.Act{Kind: api.ACsi, Code: int(c), Mark: int(mark), Inter: inter, Args: numbers}
}

func osc1(s string) api.Act { return api.Act{Kind: api.AOsc, Text: s} }

func TestFeedWhole(t *testing.T) {
	for _, c := range []struct {
		s    string
		want []api.Act
	}{
		{"", nil},
		{"a\u20ac\U0001f600", []api.Act{print1('a'), print1(0x20ac), print1(0x1f600)}},
		{"a\r\n\t\a\x00b", []api.Act{print1('a'), ctrl1(13), ctrl1(10), ctrl1(9), ctrl1(7), ctrl1(0), print1('b')}},
		{"a\x18\x1ab", []api.Act{print1('a'), print1('b')}},
		{"a\x7f\u0080\u009b\u009f\u00a0", []api.Act{print1('a'), print1(0xa0)}},
		{"\x1b7x", []api.Act{esc1("", '7'), print1('x')}},
		{"\x1b\\\x1b~", []api.Act{esc1("", '\\'), esc1("", '~')}},
		{"\x1b(0\x1b #8", []api.Act{esc1("(", '0'), esc1(" #", '8')}},
		{"\x1b(P\x1b([\x1b(]\x1b(_", []api.Act{esc1("(", 'P'), esc1("(", '['), esc1("(", ']'), esc1("(", '_')}},
		{"\x1b !\"x\x1b !\"#$x", []api.Act{drop, drop}},
		{"\x1b[1;2H", []api.Act{csi1(0, "", 'H', 1, 2)}},
		{"\x1b[m", []api.Act{csi1(0, "", 'm', -1)}},
		{"\x1b[;m", []api.Act{csi1(0, "", 'm', -1, -1)}},
		{"\x1b[007;99999m", []api.Act{csi1(0, "", 'm', 7, 16383)}},
		{"\x1b[?25h\x1b[>c\x1b[<0;1;2M\x1b[=5u", []api.Act{csi1('?', "", 'h', 25), csi1('>', "", 'c', -1), csi1('<', "", 'M', 0, 1, 2), csi1('=', "", 'u', 5)}},
		{"\x1b[ q\x1b[2 q\x1b[?1;2$!p", []api.Act{csi1(0, " ", 'q', -1), csi1(0, " ", 'q', 2), csi1('?', "$!", 'p', 1, 2)}},
		{"\x1b[1 !\"p\x1b[ !\"#p", []api.Act{drop, drop}},
		{"\x1b[1[\x1b[@\x1b[~", []api.Act{csi1(0, "", '[', 1), csi1(0, "", '@', -1), csi1(0, "", '~', -1)}},
		{"\x1b]0;a title\ax", []api.Act{osc1("0;a title"), print1('x')}},
		{"\x1b]0;\u00e4\u20ac\U0001f600\x1b\\x", []api.Act{osc1("0;\u00e4\u20ac\U0001f600"), print1('x')}},
		{"\x1b]\a\x1b]\x1b\\", []api.Act{osc1(""), osc1("")}},
		{"\x1bPq\a\n[m]\u00a0\x7f\x1b\\x", []api.Act{drop, print1('x')}},
		{"\x1bX\x1b\\\x1b^\x1b\\\x1b_\x1b\\", []api.Act{drop, drop, drop}},
	} {
		expectFeed(t, api.Parser{}, runesOf(c.s), api.Parser{}, c.want)
	}
}

func TestFeedWhatComesBetween(t *testing.T) {
	for _, c := range []struct {
		s    string
		want []api.Act
	}{
		{"\x1b\n[\r1\t;\a2\x00H", []api.Act{ctrl1(10), ctrl1(13), ctrl1(9), ctrl1(7), ctrl1(0), csi1(0, "", 'H', 1, 2)}},
		{"\x1b(\n0\x1b[ \n!p\x1b[:\n1p", []api.Act{ctrl1(10), esc1("(", '0'), ctrl1(10), csi1(0, " !", 'p', -1), ctrl1(10), drop}},
		{"\x1b\x7f[\u00801\u009f;\x7f2\u009bH", []api.Act{csi1(0, "", 'H', 1, 2)}},
		{"\x1b]a\nb\rc\x00\x7f\u0085d\a", []api.Act{osc1("abcd")}},
		{"\x1b[1\x18H\x1b[1\x1aH\x1b\x18H\x1b(\x1aH", []api.Act{drop, print1('H'), drop, print1('H'), drop, print1('H'), drop, print1('H')}},
		{"\x1b]a\x18b\x1b]a\x1ab\x1bPa\x18b\x1b_a\x1ab", []api.Act{drop, print1('b'), drop, print1('b'), drop, print1('b'), drop, print1('b')}},
		{"\x1b\x1b\x1b7", []api.Act{drop, drop, esc1("", '7')}},
		{"\x1b[?1;2 \x1b[3m", []api.Act{drop, csi1(0, "", 'm', 3)}},
		{"\x1b(\x1b)0", []api.Act{drop, esc1(")", '0')}},
		{"\x1b\u00a0x\x1b[1\u20acx\x1b(\u00a0x\x1b[ \u00a0x\x1b[:\u00a0x", []api.Act{drop, print1('x'), drop, print1('x'), drop, print1('x'), drop, print1('x'), drop, print1('x')}},
		{"\x1b[1:2m\x1b[:m\x1b[1?m\x1b[??m\x1b[ 1m\x1b[1 ?;: ;m", []api.Act{drop, drop, drop, drop, drop, drop}},
		{"\x1b[:\x1b[1m\x1b[:\x18m", []api.Act{drop, csi1(0, "", 'm', 1), drop, print1('m')}},
	} {
		expectFeed(t, api.Parser{}, runesOf(c.s), api.Parser{}, c.want)
	}
}

// TestFeedTextThatIsLeft: behind a text's 27 any rune but its end drops the text, and is then read as in SEsc.
func TestFeedTextThatIsLeft(t *testing.T) {
	for _, begin := range []string{"\x1b]gone\x1b", "\x1bPgone\x1b"} {
		for _, c := range []struct {
			s    string
			to   api.Parser
			want []api.Act
		}{
			{"[1m", api.Parser{}, []api.Act{drop, csi1(0, "", 'm', 1)}},
			{"7", api.Parser{}, []api.Act{drop, esc1("", '7')}},
			{"]b\a", api.Parser{}, []api.Act{drop, osc1("b")}},
			{"]b\x1b\\", api.Parser{}, []api.Act{drop, osc1("b")}},
			{"_b\x1b\\", api.Parser{}, []api.Act{drop, drop}},
			{"(0", api.Parser{}, []api.Act{drop, esc1("(", '0')}},
			{"\x1b", api.Parser{State: api.SEsc}, []api.Act{drop, drop}},
			{"\x1b\\", api.Parser{}, []api.Act{drop, drop, esc1("", '\\')}},
			{"\x18x", api.Parser{}, []api.Act{drop, drop, print1('x')}},
			{"\x1ax", api.Parser{}, []api.Act{drop, drop, print1('x')}},
			{"\a", api.Parser{State: api.SEsc}, []api.Act{drop, ctrl1(7)}},
			{"\n\\", api.Parser{}, []api.Act{drop, ctrl1(10), esc1("", '\\')}},
			{"\x7f", api.Parser{State: api.SEsc}, []api.Act{drop}},
			{"\u009f\\", api.Parser{}, []api.Act{drop, esc1("", '\\')}},
			{"\u00a0x", api.Parser{}, []api.Act{drop, drop, print1('x')}},
		} {
			expectFeed(t, api.Parser{}, runesOf(begin+c.s), c.to, c.want)
		}
	}
}

func TestFeedUnderWay(t *testing.T) {
	for _, c := range []struct {
		s  string
		to api.Parser
	}{
		{"\x1b", api.Parser{State: api.SEsc}},
		{"\x1b(", api.Parser{State: api.SEscInter, Inter: "("}},
		{"\x1b !\"#$", api.Parser{State: api.SEscInter, Inter: " !\""}},
		{"\x1b[", api.Parser{State: api.SCsi}},
		{"\x1b[1;", api.Parser{State: api.SArgs, Args: "1;"}},
		{"\x1b[?", api.Parser{State: api.SArgs, Mark: '?'}},
		{"\x1b[?1;02", api.Parser{State: api.SArgs, Mark: '?', Args: "1;02"}},
		{"\x1b[ ", api.Parser{State: api.SCsiInter, Inter: " "}},
		{"\x1b[>1!//$", api.Parser{State: api.SCsiInter, Mark: '>', Args: "1", Inter: "!//"}},
		{"\x1b[?1:", api.Parser{State: api.SIgnore}},
		{"\x1b[?1?", api.Parser{State: api.SIgnore}},
		{"\x1b[?1 5", api.Parser{State: api.SIgnore}},
		{"\x1b]", api.Parser{State: api.SOsc}},
		{"\x1b]0;\u20ac", api.Parser{State: api.SOsc, Text: "0;\u20ac"}},
		{"\x1b]0;\u20ac\x1b", api.Parser{State: api.SOscEsc, Text: "0;\u20ac"}},
		{"\x1bP", api.Parser{State: api.SText}},
		{"\x1b^long\a\n", api.Parser{State: api.SText}},
		{"\x1bXlong\x1b", api.Parser{State: api.STextEsc}},
	} {
		expectFeed(t, api.Parser{}, runesOf(c.s), c.to, nil)
	}
}

// manyRunes: all small ones, those at the bounds, those whose low bits are a control's or a sign's, and what is passed over.
func manyRunes() []int {
	l := noNumbers()
	for c := range 0x300 {
		l = append(l, c, 1<<16+c, 1<<32+c, math.MinInt+c, -c)
	}
	return append(l, 0x7ff, 0x800, 0x20ac, 0xd7ff, 0xd800, 0xdabc, 0xdfff, 0xe000, 0xfffd, 0xffff, 0x10000, 0x1f600, 0x10fffe, 0x10ffff, 0x110000, 0x110001, 0x1fffff)
}

func TestFeedEachRuneInEachState(t *testing.T) {
	runes := manyRunes()
	for _, p := range goodParsers() {
		for _, c := range runes {
			expectAsWanted(t, p, []int{c})
		}
	}
}

// TestFeedPassesOver numbers that no rune could be, wherever they stand.
func TestFeedPassesOver(t *testing.T) {
	s := "a\x1b7\x1b(0\x1b[?1;2$p\x1b[:1m\x1b]0;\u20ac\x1b\\\x1bPq\x1b\\\x1b]x\x1b7\x1b]y\a"
	want := []api.Act{print1('a'), esc1("", '7'), esc1("(", '0'), csi1('?', "$", 'p', 1, 2), drop, osc1("0;\u20ac"), drop, drop, esc1("", '7'), osc1("y")}
	expectFeed(t, api.Parser{}, runesOf(s), api.Parser{}, want)
	for _, n := range append(noNumbers(), 1114112, 1<<32+27, 1<<32+'\\', -27, math.MinInt+24) {
		if 0 <= n && n <= most {
			continue
		}
		runes := []int{n}
		for _, c := range runesOf(s) {
			runes = append(runes, c, n, n)
		}
		expectFeed(t, api.Parser{}, runes, api.Parser{}, want)
		for _, p := range goodParsers() {
			expectFeed(t, p, []int{n, n}, p, nil)
		}
	}
}

// TestFeedWhatIsNoRune but lies among them: it is printed as it is, and a Text has 65533 for it, as UTF-8 has none.
func TestFeedWhatIsNoRune(t *testing.T) {
	for _, c := range []int{0xd800, 0xdbff, 0xdc00, 0xdfff} {
		expectFeed(t, api.Parser{}, []int{c}, api.Parser{}, told(api.Act{Kind: api.APrint, Code: c}))
		expectFeed(t, api.Parser{}, []int{27, ']', c, 'x', 7}, api.Parser{}, told(osc1("\ufffdx")))
		expectFeed(t, api.Parser{State: api.SArgs}, []int{c}, api.Parser{}, told(drop))
		expectFeed(t, api.Parser{State: api.SText}, []int{c}, api.Parser{State: api.SText}, nil)
		expectFeed(t, api.Parser{State: api.SOscEsc, Text: "x"}, []int{c}, api.Parser{}, []api.Act{drop, drop})
	}
}

func TestFeedNothing(t *testing.T) {
	for _, p := range goodParsers() {
		expectFeed(t, p, nil, p, nil)
		expectFeed(t, p, []int{}, p, nil)
	}
}

func TestFeedRefusesBadParsers(t *testing.T) {
	for _, p := range badParsers() {
		for _, runes := range [][]int{nil, {'a'}, {24}, {27, '['}, {-1}, runesOf("\x1b]0;x\x1b\\")} {
			if got, acts, e := parse.Feed(p, runes); got != p || len(acts) != 0 || e != api.ErrForm {
				t.Errorf("Feed(%s, %v) = %s, %s, %d", show(p), runes, show(got), show(acts), e)
			}
		}
	}
}

func TestFeedManyNumbers(t *testing.T) {
	for n := range 140 {
		under := api.Parser{State: api.SArgs, Args: strings.Repeat("0", min(n, 100))}
		if n == 0 {
			under = api.Parser{State: api.SCsi}
		}
		want := 5
		if n >= 100 {
			want = 0
		}
		expectFeed(t, api.Parser{}, runesOf("\x1b["+strings.Repeat("0", n)), under, nil)
		expectFeed(t, api.Parser{}, runesOf("\x1b["+strings.Repeat("0", n)+"5m"), api.Parser{}, told(csi1(0, "", 'm', want)))
		expectFeed(t, api.Parser{}, runesOf("\x1b["+strings.Repeat(";", n)+"m"), api.Parser{}, told(csi1(0, "", 'm', slices.Repeat([]int{-1}, min(n+1, 32))...)))
	}
	long := strings.Repeat("9", 98) + ";3"
	expectFeed(t, api.Parser{}, runesOf("\x1b[?"+long+"7;8;9 q"), api.Parser{}, told(csi1('?', " ", 'q', 16383, 3)))
	expectFeed(t, api.Parser{}, runesOf("\x1b["+long+":m"), api.Parser{}, told(drop))
	expectFeed(t, api.Parser{}, runesOf("\x1b["+long+"1?m"), api.Parser{}, told(drop))
	expectFeed(t, api.Parser{}, runesOf("\x1b["+strings.Repeat("1;", 100000)+"m\x1b[4m"), api.Parser{}, []api.Act{csi1(0, "", 'm', slices.Repeat([]int{1}, 32)...), csi1(0, "", 'm', 4)})
}

// TestFeedLongTexts: a rune that makes the Text too long is passed over, and a shorter one behind it may still have room.
func TestFeedLongTexts(t *testing.T) {
	for n := 245; n <= 270; n++ {
		y := strings.Repeat("y", n)
		head := y[:min(n, 256)]
		expectFeed(t, api.Parser{}, runesOf("\x1b]"+y+"\a"), api.Parser{}, told(osc1(head)))
		for _, c := range []string{"\u00e4", "\u20ac", "\U0001f600", "\ufffd"} {
			want := head
			if n+len(c) <= 256 {
				want += c
			}
			for range 5 {
				if len(want) < 256 {
					want += "z"
				}
			}
			expectFeed(t, api.Parser{}, runesOf("\x1b]"+y+c+"zzzzz\x1b\\"), api.Parser{}, told(osc1(want)))
		}
	}
	expectFeed(t, api.Parser{}, runesOf("\x1b]"+strings.Repeat("\u20ac", 1000)+"\u00e4ab\ac"), api.Parser{}, []api.Act{osc1(strings.Repeat("\u20ac", 85) + "a"), print1('c')})
	expectFeed(t, api.Parser{}, runesOf("\x1bP"+strings.Repeat("q", 100000)+"\x1b\\c"), api.Parser{}, []api.Act{drop, print1('c')})
}

// TestFeedLeavesNothing of a command in the next one.
func TestFeedLeavesNothing(t *testing.T) {
	begins := []string{"\x1b", "\x1b()", "\x1b[", "\x1b[?1;2", "\x1b[>1;2 !", "\x1b[?1:", "\x1b]text", "\x1b]text\x1b", "\x1bPtext", "\x1bPtext\x1b"}
	for _, begin := range begins {
		for _, between := range []string{"\x18", "\x1a"} {
			for _, next := range begins {
				p, _ := wantFeed(api.Parser{}, runesOf(next))
				got, _, _ := parse.Feed(api.Parser{}, runesOf(begin+between+next))
				if got != p {
					t.Errorf("behind %q: %s; want %s", begin+between+next, show(got), show(p))
				}
			}
			expectFeed(t, api.Parser{}, runesOf(begin+between), api.Parser{}, dropsOf(begin))
		}
	}
}

// dropsOf counts what 24 drops behind begin: the text that a 27 left, and the command that the 27 began.
func dropsOf(begin string) []api.Act {
	if len(begin) > 1 && strings.HasSuffix(begin, "\x1b") {
		return []api.Act{drop, drop}
	}
	return told(drop)
}
