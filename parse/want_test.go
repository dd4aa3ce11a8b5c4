package parse_test

import (
	"fmt"
	"slices"
	"strings"
	"testing"

	"farwriter/api"
	"farwriter/args"
	"farwriter/parse"
)

// A row of P14.2's table: what the runes from first to last do in these States. The first row that has State and rune counts.
type row struct {
	states      []int
	first, last int
	do          func(p api.Parser, c int) (api.Parser, []api.Act)
}

const most = 1114111

var (
	upToIgnore = []int{api.SGround, api.SEsc, api.SEscInter, api.SCsi, api.SArgs, api.SCsiInter, api.SIgnore}
	texts      = []int{api.SOsc, api.SText}
	textEscs   = []int{api.SOscEsc, api.STextEsc}
)

func pass(p api.Parser, _ int) (api.Parser, []api.Act) { return p, nil }

func told(a api.Act) []api.Act { return []api.Act{a} }

var drop = api.Act{Kind: api.ADrop}

// dropTo is an ADrop, but in SGround; on in that State.
func dropTo(state int) func(api.Parser, int) (api.Parser, []api.Act) {
	return func(p api.Parser, _ int) (api.Parser, []api.Act) {
		if p.State == api.SGround {
			return api.Parser{State: state}, nil
		}
		return api.Parser{State: state}, told(drop)
	}
}

func onTo(state int) func(api.Parser, int) (api.Parser, []api.Act) {
	return func(api.Parser, int) (api.Parser, []api.Act) { return api.Parser{State: state}, nil }
}

func ctrl(p api.Parser, c int) (api.Parser, []api.Act) {
	return p, told(api.Act{Kind: api.ACtrl, Code: c})
}

func printed(p api.Parser, c int) (api.Parser, []api.Act) {
	return p, told(api.Act{Kind: api.APrint, Code: c})
}

func interTo(state int) func(api.Parser, int) (api.Parser, []api.Act) {
	return func(p api.Parser, c int) (api.Parser, []api.Act) {
		if p.Inter += string(rune(c)); len(p.Inter) > 3 {
			p.Inter = p.Inter[:3]
		}
		p.State = state
		return p, nil
	}
}

func esc(p api.Parser, c int) (api.Parser, []api.Act) {
	if len(p.Inter) == 3 {
		return api.Parser{}, told(drop)
	}
	return api.Parser{}, told(api.Act{Kind: api.AEsc, Code: c, Inter: p.Inter})
}

func csi(p api.Parser, c int) (api.Parser, []api.Act) {
	if len(p.Inter) == 3 {
		return api.Parser{}, told(drop)
	}
	numbers, _ := args.Read(p.Args)
	return api.Parser{}, told(api.Act{Kind: api.ACsi, Code: c, Mark: p.Mark, Inter: p.Inter, Args: numbers})
}

func number(p api.Parser, c int) (api.Parser, []api.Act) {
	if p.Args += string(rune(c)); len(p.Args) > 100 {
		p.Args = p.Args[:100]
	}
	p.State = api.SArgs
	return p, nil
}

func mark(p api.Parser, c int) (api.Parser, []api.Act) {
	p.State, p.Mark = api.SArgs, c
	return p, nil
}

func behindText(p api.Parser, _ int) (api.Parser, []api.Act) {
	p.State++
	return p, nil
}

func text(p api.Parser, c int) (api.Parser, []api.Act) {
	if longer := p.Text + string(rune(c)); len(longer) <= 256 {
		p.Text = longer
	}
	return p, nil
}

func osc(p api.Parser, _ int) (api.Parser, []api.Act) {
	return api.Parser{}, told(api.Act{Kind: api.AOsc, Text: p.Text})
}

// asEsc is an ADrop, and then what the rune does in SEsc.
func asEsc(_ api.Parser, c int) (api.Parser, []api.Act) {
	p, acts := wantOne(api.Parser{State: api.SEsc}, c)
	return p, append(told(drop), acts...)
}

func commandRows() []row {
	return []row{
		{upToIgnore, 24, 24, dropTo(api.SGround)},
		{upToIgnore, 26, 26, dropTo(api.SGround)},
		{upToIgnore, 27, 27, dropTo(api.SEsc)},
		{upToIgnore, 0, 31, ctrl},
		{upToIgnore, 127, 159, pass},
		{[]int{api.SGround}, 0, most, printed},
		{[]int{api.SEsc}, 32, 47, interTo(api.SEscInter)},
		{[]int{api.SEsc}, '[', '[', onTo(api.SCsi)},
		{[]int{api.SEsc}, ']', ']', onTo(api.SOsc)},
		{[]int{api.SEsc}, 'P', 'P', onTo(api.SText)},
		{[]int{api.SEsc}, 'X', 'X', onTo(api.SText)},
		{[]int{api.SEsc}, '^', '_', onTo(api.SText)},
		{[]int{api.SEsc}, 48, 126, esc},
		{[]int{api.SEscInter}, 32, 47, interTo(api.SEscInter)},
		{[]int{api.SEscInter}, 48, 126, esc},
		{[]int{api.SCsi, api.SArgs}, '0', '9', number},
		{[]int{api.SCsi, api.SArgs}, ';', ';', number},
		{[]int{api.SCsi}, 60, 63, mark},
		{[]int{api.SArgs}, 60, 63, onTo(api.SIgnore)},
		{[]int{api.SCsi, api.SArgs}, ':', ':', onTo(api.SIgnore)},
		{[]int{api.SCsi, api.SArgs, api.SCsiInter}, 32, 47, interTo(api.SCsiInter)},
		{[]int{api.SCsiInter}, 48, 63, onTo(api.SIgnore)},
		{[]int{api.SCsi, api.SArgs, api.SCsiInter}, 64, 126, csi},
		{[]int{api.SIgnore}, 32, 63, pass},
		{[]int{api.SIgnore}, 64, 126, dropTo(api.SGround)},
		{upToIgnore[1:], 160, most, dropTo(api.SGround)},
	}
}

func textRows() []row {
	return []row{
		{texts, 27, 27, behindText},
		{texts, 24, 24, dropTo(api.SGround)},
		{texts, 26, 26, dropTo(api.SGround)},
		{[]int{api.SText}, 0, most, pass},
		{[]int{api.SOsc}, 7, 7, osc},
		{[]int{api.SOsc}, 0, 31, pass},
		{[]int{api.SOsc}, 127, 159, pass},
		{[]int{api.SOsc}, 0, most, text},
		{[]int{api.SOscEsc}, '\\', '\\', osc},
		{[]int{api.STextEsc}, '\\', '\\', dropTo(api.SGround)},
		{textEscs, 0, most, asEsc},
	}
}

var rows []row

func init() { rows = append(commandRows(), textRows()...) }

// wantOne goes by P14.2's words.
func wantOne(p api.Parser, c int) (api.Parser, []api.Act) {
	if c < 0 || c > most {
		return p, nil
	}
	for _, r := range rows {
		if slices.Contains(r.states, p.State) && r.first <= c && c <= r.last {
			return r.do(p, c)
		}
	}
	panic("no row of the table has it")
}

func wantFeed(p api.Parser, runes []int) (api.Parser, []api.Act) {
	var acts []api.Act
	for _, c := range runes {
		var more []api.Act
		p, more = wantOne(p, c)
		acts = append(acts, more...)
	}
	return p, acts
}

// show cuts what is long.
func show(v any) string {
	s := fmt.Sprintf("%+v", v)
	if len(s) > 600 {
		return s[:600] + ".."
	}
	return s
}

// sameAct takes no list of numbers and an empty one for the same.
func sameAct(a, b api.Act) bool {
	return a.Kind == b.Kind && a.Code == b.Code && a.Mark == b.Mark && a.Inter == b.Inter && slices.Equal(a.Args, b.Args) && a.Text == b.Text
}

func sameActs(a, b []api.Act) bool { return slices.EqualFunc(a, b, sameAct) }

func expectFeed(t *testing.T, p api.Parser, runes []int, wantParser api.Parser, want []api.Act) {
	t.Helper()
	if got, acts, e := parse.Feed(p, runes); got != wantParser || !sameActs(acts, want) || e != api.OK {
		t.Errorf("Feed(%s, %s) = %s, %s, %d; want %s, %s", show(p), show(runes), show(got), show(acts), e, show(wantParser), show(want))
	}
}

// expectAsWanted holds Feed against the table.
func expectAsWanted(t *testing.T, p api.Parser, runes []int) {
	t.Helper()
	wantParser, want := wantFeed(p, runes)
	expectFeed(t, p, runes, wantParser, want)
}

func runesOf(s string) []int {
	var runes []int
	for _, c := range s {
		runes = append(runes, int(c))
	}
	return runes
}

// goodParsers: of each State some, those at the bounds among them.
func goodParsers() []api.Parser {
	parsers := []api.Parser{{}, {State: api.SEsc}, {State: api.SCsi}, {State: api.SIgnore}, {State: api.SText}, {State: api.STextEsc}}
	inters := []string{" ", "/", "$", " !", "//", "!\"#", "   ", "///"}
	numbers := []string{"", "0", "7", ";", "1;2", "9;;16383;99999", strings.Repeat("9", 99), strings.Repeat(";", 99), strings.Repeat("1;", 50), strings.Repeat("0", 100)}
	for _, inter := range inters {
		parsers = append(parsers, api.Parser{State: api.SEscInter, Inter: inter})
	}
	for _, mark := range []int{0, 60, 61, 62, 63} {
		for _, s := range numbers {
			parsers = append(parsers, api.Parser{State: api.SArgs, Mark: mark, Args: s})
			for _, inter := range inters {
				parsers = append(parsers, api.Parser{State: api.SCsiInter, Mark: mark, Inter: inter, Args: s})
			}
		}
	}
	for _, s := range []string{"", "x", "0;title", "\u20ac", "\xff\x80", "\x00\a\x1b", strings.Repeat("y", 252), strings.Repeat("y", 253), strings.Repeat("\u00e4", 127), strings.Repeat("y", 255), strings.Repeat("y", 256), strings.Repeat("\u00e4", 128), strings.Repeat("\xff", 256)} {
		parsers = append(parsers, api.Parser{State: api.SOsc, Text: s}, api.Parser{State: api.SOscEsc, Text: s})
	}
	return parsers
}
