package parse_test

import (
	"slices"
	"strings"
	"testing"

	"farwriter/api"
	"farwriter/parse"
)

// whatMatters has a rune of each sort that the table has.
var whatMatters = []int{27, '[', ']', 'P', '\\', ' ', '!', '0', ';', ':', '?', 'm', 10, 7, 24, 127, 0x20ac, -1}

// eachShort calls f with all rows of n of the runes that matter.
func eachShort(n int, f func(runes []int)) {
	runes := make([]int, n)
	var set func(at int)
	set = func(at int) {
		if at == n {
			f(runes)
			return
		}
		for _, c := range whatMatters {
			runes[at] = c
			set(at + 1)
		}
	}
	set(0)
}

func TestFeedShortRows(t *testing.T) {
	for n := range 5 {
		eachShort(n, func(runes []int) { expectAsWanted(t, api.Parser{}, runes) })
	}
	for _, p := range []api.Parser{
		{State: api.SEsc},
		{State: api.SEscInter, Inter: "(("},
		{State: api.SCsi},
		{State: api.SArgs, Mark: '>', Args: strings.Repeat("9", 98)},
		{State: api.SCsiInter, Mark: '?', Inter: "/", Args: "1"},
		{State: api.SIgnore},
		{State: api.SOsc, Text: strings.Repeat("y", 252)},
		{State: api.SOscEsc, Text: "left"},
		{State: api.SText},
		{State: api.STextEsc},
	} {
		eachShort(3, func(runes []int) { expectAsWanted(t, p, runes) })
	}
}

// longRow of runes, by a rule that comes to all States and bounds.
func longRow() []int {
	var runes []int
	for _, s := range []string{
		"text\r\n\x1b[1;2H\x1b[?25l\x1b[1\n;2\x00 q\x1b(0lqk\x1b)B\x1b7\x1b8\u20ac\U0001f600\x7f\u0085",
		"\x1b]0;a \u00e4 title\ax\x1b]2;b\x1b\\y\x1b]left\x1b[31mz\x1bPq#0;2\x1b\\\x1b_gone\x1bD\x1b^\x1b\x1bM",
		"\x1b[1:2m\x1b[1?m\x1b[ !\"#p\x1b !\"0\x1b[3\x18m\x1b[4\x1am\x1b\u00a0\x1b]" + strings.Repeat("\u20ac", 90) + "\u00e4ab\a",
		"\x1b[" + strings.Repeat("12;", 40) + "m\x1b[>" + strings.Repeat("0", 120) + "7$p\x1b]" + strings.Repeat("y", 300) + "\x1b\\",
	} {
		runes = append(runes, runesOf(s)...)
		runes = append(runes, -1, 1114112, 0xd800)
	}
	return runes
}

// TestFeedInPieces: it is no matter in which ones the runes come.
func TestFeedInPieces(t *testing.T) {
	all := longRow()
	whole, acts, e := parse.Feed(api.Parser{}, all)
	if e != api.OK {
		t.Fatal(e)
	}
	expectAsWanted(t, api.Parser{}, all)
	for at := range len(all) + 1 {
		p, first, _ := parse.Feed(api.Parser{}, all[:at])
		expectCheck(t, p, api.OK)
		p, second, e := parse.Feed(p, all[at:])
		if p != whole || !sameActs(append(slices.Clone(first), second...), acts) || e != api.OK {
			t.Errorf("cut at %d: %s, %d", at, show(p), e)
		}
	}
	for size := 1; size < 40; size++ {
		var p api.Parser
		var got []api.Act
		for piece := range slices.Chunk(all, size) {
			var more []api.Act
			p, more, e = parse.Feed(p, piece)
			got = append(got, more...)
			if e != api.OK {
				t.Fatal(size, show(p), e)
			}
		}
		if p != whole || !sameActs(got, acts) {
			t.Errorf("by %d: %s, %s", size, show(p), show(got))
		}
	}
}

// TestFeedGoesOn: whatever came, behind a 24 all is read as it should be, and no parser is out of its bounds.
func TestFeedGoesOn(t *testing.T) {
	state := uint32(1)
	next := func(n int) int {
		state = state*1664525 + 1013904223
		return int(state>>8) % n
	}
	for range 3000 {
		var runes []int
		for range next(200) {
			if next(3) == 0 {
				runes = append(runes, next(0x140)-5)
			} else {
				runes = append(runes, whatMatters[next(len(whatMatters))])
			}
		}
		expectAsWanted(t, api.Parser{}, runes)
		p, _, e := parse.Feed(api.Parser{}, runes)
		if e != api.OK {
			t.Fatal(e)
		}
		expectCheck(t, p, api.OK)
		p, _, _ = parse.Feed(p, []int{24})
		expectFeed(t, p, runesOf("a\x1b[1;2H"), api.Parser{}, []api.Act{print1('a'), csi1(0, "", 'H', 1, 2)})
	}
}
