package parse_test

import (
	"math"
	"strings"
	"testing"

	"farwriter/api"
	"farwriter/parse"
)

func expectCheck(t *testing.T, p api.Parser, want api.Errno) {
	t.Helper()
	if e := parse.Check(p); e != want {
		t.Errorf("Check(%s) = %d; want %d", show(p), e, want)
	}
}

// wantCheck goes by P14.1's words.
func wantCheck(p api.Parser) api.Errno {
	args := p.State == api.SArgs || p.State == api.SCsiInter
	inter := p.State == api.SEscInter || p.State == api.SCsiInter
	text := p.State == api.SOsc || p.State == api.SOscEsc
	switch {
	case p.State < 0 || p.State > 10,
		p.Mark != 0 && (p.Mark < 60 || p.Mark > 63 || !args),
		len(p.Inter) > 3 || strings.Trim(p.Inter, " !\"#$%&'()*+,-./") != "" || inter != (p.Inter != ""),
		len(p.Args) > 100 || strings.Trim(p.Args, "0123456789;") != "" || p.Args != "" && !args,
		len(p.Text) > 256 || p.Text != "" && !text:
		return api.ErrForm
	}
	return api.OK
}

// bare is a parser of that State with nothing in it but what it must have.
func bare(state int) api.Parser {
	if state == api.SEscInter || state == api.SCsiInter {
		return api.Parser{State: state, Inter: "!"}
	}
	return api.Parser{State: state}
}

// noNumbers: far out of all bounds, some with the low bits of what is within them.
func noNumbers() []int {
	l := []int{math.MinInt, math.MinInt32, -256, -60, -2, -1, math.MaxInt32, math.MaxInt}
	for _, high := range []int{1 << 8, 1 << 16, 1 << 32, 1 << 62, math.MinInt} {
		for _, low := range []int{0, 3, 4, 5, 10, 24, 27, 60, 63} {
			l = append(l, high+low)
		}
	}
	return l
}

// badParsers have one thing wrong each.
func badParsers() []api.Parser {
	var parsers []api.Parser
	for _, n := range append(noNumbers(), 11, 12, 255) {
		parsers = append(parsers, api.Parser{State: n}, api.Parser{State: n, Inter: "!"})
		for state := range 11 {
			p := bare(state)
			p.Mark = n
			parsers = append(parsers, p)
		}
	}
	for _, p := range []api.Parser{
		{State: api.SEscInter}, {State: api.SCsiInter}, {State: api.SCsiInter, Args: "1"},
		{State: api.SEscInter, Inter: "!!!!"}, {State: api.SCsiInter, Inter: "    "}, {State: api.SCsiInter, Inter: strings.Repeat("!", 1000)},
		{Inter: "!"}, {State: api.SEsc, Inter: "!"}, {State: api.SArgs, Inter: "!"}, {State: api.SOsc, Inter: "!"},
		{Args: "1"}, {State: api.SCsi, Args: "1"}, {State: api.SCsi, Args: ";"}, {State: api.SIgnore, Args: "1"}, {State: api.SOsc, Args: "1"},
		{State: api.SEscInter, Inter: "!", Args: "1"}, {State: api.SCsi, Mark: 63}, {State: api.SIgnore, Mark: 63}, {State: api.SEscInter, Inter: "!", Mark: 63},
		{State: api.SArgs, Args: "1:2"}, {State: api.SArgs, Args: "-1"}, {State: api.SArgs, Args: " "}, {State: api.SArgs, Args: "\u0661"}, {State: api.SArgs, Args: "1\x00"},
		{State: api.SArgs, Args: strings.Repeat("1", 101)}, {State: api.SCsiInter, Inter: "!", Args: strings.Repeat(";", 101)}, {State: api.SArgs, Args: strings.Repeat("1", 100) + "x"},
		{State: api.SArgs, Args: strings.Repeat("1", 356)}, {State: api.SArgs, Args: strings.Repeat("1", 1<<20)},
		{Text: "x"}, {State: api.SEsc, Text: "x"}, {State: api.SText, Text: "x"}, {State: api.STextEsc, Text: "x"}, {State: api.SArgs, Text: "x"}, {State: api.SIgnore, Text: "\x00"},
		{State: api.SOsc, Text: strings.Repeat("x", 257)}, {State: api.SOscEsc, Text: strings.Repeat("x", 257)}, {State: api.SOsc, Text: strings.Repeat("\u00e4", 129)},
		{State: api.SOsc, Text: strings.Repeat("x", 512)}, {State: api.SOscEsc, Text: strings.Repeat("x", 1<<20)},
	} {
		parsers = append(parsers, p)
	}
	return parsers
}

func TestCheckTakesGoodParsers(t *testing.T) {
	for _, p := range goodParsers() {
		expectCheck(t, p, api.OK)
	}
}

func TestCheckRefusesBadParsers(t *testing.T) {
	for _, p := range badParsers() {
		expectCheck(t, p, api.ErrForm)
	}
}

// TestCheckEachStateWithEachThing: what may stand in which State, thing by thing and two at a time.
func TestCheckEachStateWithEachThing(t *testing.T) {
	things := []func(*api.Parser){
		func(*api.Parser) {},
		func(p *api.Parser) { p.Inter = "" },
		func(p *api.Parser) { p.Inter = "!" },
		func(p *api.Parser) { p.Inter = "!!!" },
		func(p *api.Parser) { p.Inter = "!!!!" },
		func(p *api.Parser) { p.Args = "1;2" },
		func(p *api.Parser) { p.Args = strings.Repeat("1", 100) },
		func(p *api.Parser) { p.Args = strings.Repeat("1", 101) },
		func(p *api.Parser) { p.Text = "x" },
		func(p *api.Parser) { p.Text = strings.Repeat("x", 256) },
		func(p *api.Parser) { p.Text = strings.Repeat("x", 257) },
	}
	for mark := -1; mark <= 128; mark++ {
		things = append(things, func(p *api.Parser) { p.Mark = mark })
	}
	for state := -3; state <= 14; state++ {
		for _, first := range things {
			for _, second := range things {
				p := bare(state)
				first(&p)
				second(&p)
				expectCheck(t, p, wantCheck(p))
			}
		}
	}
}

// TestCheckEachByte of Inter and of Args, at each place; a Text may have any.
func TestCheckEachByte(t *testing.T) {
	for b := range 256 {
		one := string([]byte{byte(b)})
		for state := range 11 {
			for _, inter := range []string{one, one + "!", "!" + one, "!" + one + "!", "!!" + one} {
				p := api.Parser{State: state, Inter: inter}
				expectCheck(t, p, wantCheck(p))
			}
			for _, s := range []string{one, "1" + one, one + ";", strings.Repeat("1", 99) + one, one + strings.Repeat("1", 99)} {
				p := bare(state)
				p.Args = s
				expectCheck(t, p, wantCheck(p))
			}
			p := bare(state)
			p.Text = one
			expectCheck(t, p, wantCheck(p))
			p.Text = strings.Repeat(one, 256)
			expectCheck(t, p, wantCheck(p))
		}
	}
}

func TestCheckEachLength(t *testing.T) {
	for n := range 600 {
		for state := range 11 {
			inter, args, text := bare(state), bare(state), bare(state)
			inter.Inter = strings.Repeat("/", n)
			args.Args = strings.Repeat("9", n)
			text.Text = strings.Repeat("\x00", n)
			for _, p := range []api.Parser{inter, args, text} {
				expectCheck(t, p, wantCheck(p))
			}
		}
	}
}
