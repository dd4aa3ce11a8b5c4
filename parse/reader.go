package parse

import (
	"strings"
	"unicode/utf8"

	"farwriter/api"
	"farwriter/args"
	"farwriter/utf"
)

// Controls that are more than an act.
const (
	bell       = 7 // ends a text
	cancel     = 24
	substitute = 26
	escape     = 27
)

// beginText: what begins, behind 27, a text that nobody wants.
const beginText = "PX^_"

func isControl(c int) bool { return 0 <= c && c < ' ' }

// isMute tells whether c neither stands for a sign nor does anything.
func isMute(c int) bool { return 127 <= c && c <= 159 }

func isArg(c int) bool { return '0' <= c && c <= '9' || c == ';' }

// A reader is a parser, and the acts that its runes have made so far.
type reader struct {
	api.Parser
	acts []api.Act
}

func (r *reader) read(runes []int) {
	// In SGround no command is under way, so that nothing is dropped there.
	abandon := func(next int) {
		if r.State != api.SGround {
			r.tell(api.Act{Kind: api.ADrop})
		}
		r.Parser = api.Parser{State: next}
	}
	for _, c := range runes {
		if 0 <= c && c <= utf8.MaxRune {
			r.take(c, abandon)
		}
	}
}

func (r *reader) tell(a api.Act) { r.acts = append(r.acts, a) }

func (r *reader) take(c int, abandon func(next int)) {
	switch r.State {
	case api.SOsc, api.SText:
		r.takeText(c, abandon)
	case api.SOscEsc, api.STextEsc:
		r.takeTextEsc(c, abandon)
	default:
		r.takeCommand(c, abandon)
	}
}

func (r *reader) takeCommand(c int, abandon func(next int)) {
	switch {
	case c == cancel || c == substitute:
		abandon(api.SGround)
	case c == escape:
		abandon(api.SEsc)
	case isControl(c):
		r.tell(api.Act{Kind: api.ACtrl, Code: c})
	case isMute(c):
	case r.State == api.SGround:
		r.tell(api.Act{Kind: api.APrint, Code: c})
	case c > '~':
		abandon(api.SGround)
	default:
		r.takeSign(c, abandon)
	}
}

// takeSign takes what is of a command: a sign from 32 to 126.
func (r *reader) takeSign(c int, abandon func(next int)) {
	switch r.State {
	case api.SEsc:
		r.takeEsc(c)
	case api.SEscInter:
		r.takeEscInter(c, abandon)
	case api.SCsi, api.SArgs:
		r.takeArgs(c)
	case api.SCsiInter:
		r.takeCsiInter(c, abandon)
	case api.SIgnore:
		if c >= '@' {
			abandon(api.SGround)
		}
	}
}

func (r *reader) takeEsc(c int) {
	switch {
	case isInter(c):
		r.State = api.SEscInter
		r.putInter(c)
	case c == '[':
		r.State = api.SCsi
	case c == ']':
		r.State = api.SOsc
	case strings.ContainsRune(beginText, rune(c)):
		r.State = api.SText
	default:
		r.end(api.Act{Kind: api.AEsc, Code: c})
	}
}

func (r *reader) takeEscInter(c int, abandon func(next int)) {
	switch {
	case isInter(c):
		r.putInter(c)
	case len(r.Inter) == maxInter:
		abandon(api.SGround)
	default:
		r.end(api.Act{Kind: api.AEsc, Code: c, Inter: r.Inter})
	}
}

func (r *reader) takeArgs(c int) {
	switch {
	case isInter(c):
		r.State = api.SCsiInter
		r.putInter(c)
	case isArg(c):
		r.State = api.SArgs
		r.putArgs(c)
	case isMark(c) && r.State == api.SCsi:
		r.State, r.Mark = api.SArgs, c
	case c >= '@':
		r.endCsi(c)
	default:
		r.ignore()
	}
}

func (r *reader) takeCsiInter(c int, abandon func(next int)) {
	switch {
	case isInter(c):
		r.putInter(c)
	case c < '@':
		r.ignore()
	case len(r.Inter) == maxInter:
		abandon(api.SGround)
	default:
		r.endCsi(c)
	}
}

func (r *reader) putInter(c int) {
	if len(r.Inter) < maxInter {
		r.Inter += string(rune(c))
	}
}

func (r *reader) putArgs(c int) {
	if len(r.Args) < maxArgs {
		r.Args += string(rune(c))
	}
}

// ignore goes on to the end of a command of which nothing counts any more.
func (r *reader) ignore() { r.Parser = api.Parser{State: api.SIgnore} }

func (r *reader) endCsi(c int) {
	numbers, _ := args.Read(r.Args) // nothing but digits and ; got there
	r.end(api.Act{Kind: api.ACsi, Code: c, Mark: r.Mark, Inter: r.Inter, Args: numbers})
}

// end tells what a whole command is, and leaves nothing of it.
func (r *reader) end(a api.Act) {
	r.tell(a)
	r.Parser = api.Parser{}
}

func (r *reader) takeText(c int, abandon func(next int)) {
	switch {
	case c == escape && r.State == api.SOsc:
		r.State = api.SOscEsc
	case c == escape:
		r.State = api.STextEsc
	case c == cancel || c == substitute:
		abandon(api.SGround)
	case r.State == api.SText:
	case c == bell:
		r.end(api.Act{Kind: api.AOsc, Text: r.Text})
	case !isControl(c) && !isMute(c):
		r.putText(c)
	}
}

// putText passes over a rune that is too long, and takes a shorter one behind it.
func (r *reader) putText(c int) {
	if s := utf.Encode([]int{c}); len(r.Text)+len(s) <= api.MaxOsc {
		r.Text += s
	}
}

func (r *reader) takeTextEsc(c int, abandon func(next int)) {
	switch {
	case c != '\\':
		abandon(api.SEsc)
		r.take(c, abandon)
	case r.State == api.SOscEsc:
		r.end(api.Act{Kind: api.AOsc, Text: r.Text})
	default:
		abandon(api.SGround)
	}
}
