package iac

import "farwriter/api"

// Modes of a wire.
const (
	modeBytes    = 0
	modeIac      = 1
	modeNeg      = 2
	modeSb       = 3
	modeWords    = 4
	modeWordsIac = 5
)

// A reader is a wire, and what its bytes have made so far. While it reads, words stands for the wire's Buf, and data for a TData that may still grow: texts would be copied for each byte.
type reader struct {
	api.Wire
	words []byte
	data  []byte
	toks  []api.Tok
}

func newReader(w api.Wire) *reader {
	r := &reader{Wire: w, words: []byte(w.Buf)}
	r.Buf = ""
	return r
}

func (r *reader) wire() api.Wire {
	w := r.Wire
	w.Buf = string(r.words)
	return w
}

func (r *reader) take(b byte) {
	switch r.Mode {
	case modeBytes:
		r.takeByte(b)
	case modeIac:
		r.takeCommand(b)
	case modeNeg:
		r.tell(api.Tok{Kind: api.TNeg, Cmd: r.Cmd, Opt: int(b)})
	case modeSb:
		r.Mode, r.Opt = modeWords, int(b)
	case modeWords:
		r.takeWord(b)
	case modeWordsIac:
		r.takeWordsCommand(b)
	}
}

func (r *reader) takeByte(b byte) {
	if b == api.CIac {
		r.Mode = modeIac
		return
	}
	r.data = append(r.data, b)
}

func (r *reader) takeCommand(b byte) {
	cmd := int(b)
	switch {
	case cmd == api.CIac:
		r.Mode = modeBytes
		r.data = append(r.data, b)
	case cmd == api.CSb:
		r.Mode = modeSb
	case isNegCmd(cmd):
		r.Mode, r.Cmd = modeNeg, cmd
	case isPlainCmd(cmd):
		r.tell(api.Tok{Kind: api.TCmd, Cmd: cmd})
	default:
		r.tell(api.Tok{Kind: api.TBad, Cmd: cmd})
	}
}

func (r *reader) takeWord(b byte) {
	if b == api.CIac {
		r.Mode = modeWordsIac
		return
	}
	r.putWord(b)
}

func (r *reader) takeWordsCommand(b byte) {
	switch {
	case b == api.CIac:
		r.Mode = modeWords
		r.putWord(b)
	case b != api.CSe:
		r.tell(api.Tok{Kind: api.TBad, Cmd: int(b), Opt: r.Opt})
	case r.Over:
		r.tell(api.Tok{Kind: api.TBad, Cmd: api.CSb, Opt: r.Opt})
	default:
		r.tell(api.Tok{Kind: api.TSub, Opt: r.Opt, Data: string(r.words)})
	}
}

func (r *reader) putWord(b byte) {
	if r.Over {
		return
	}
	if len(r.words) == api.MaxSub {
		r.words = r.words[:0]
		r.Over = true
		return
	}
	r.words = append(r.words, b)
}

// tell puts a token behind the data that came ahead of it. Each token ends whatever was under way.
func (r *reader) tell(t api.Tok) {
	r.endData()
	r.toks = append(r.toks, t)
	r.Wire = api.Wire{}
	r.words = r.words[:0]
}

func (r *reader) endData() {
	if len(r.data) == 0 {
		return
	}
	r.toks = append(r.toks, api.Tok{Kind: api.TData, Data: string(r.data)})
	r.data = r.data[:0]
}
