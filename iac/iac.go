// Package iac: commands among bytes: see doc/01-iac.md.
package iac

import (
	"strings"

	"farwriter/api"
)

// Check: P1.1.
func Check(w api.Wire) api.Errno {
	if !isWire(w) {
		return api.ErrForm
	}
	return api.OK
}

func isWire(w api.Wire) bool {
	switch w.Mode {
	case modeBytes, modeIac, modeSb:
		return w == api.Wire{Mode: w.Mode}
	case modeNeg:
		return isNegCmd(w.Cmd) && w == api.Wire{Mode: w.Mode, Cmd: w.Cmd}
	case modeWords, modeWordsIac:
		return w.Cmd == 0 && isByte(w.Opt) && areWords(w.Buf, w.Over)
	}
	return false
}

func areWords(buf string, over bool) bool {
	if over {
		return buf == ""
	}
	return len(buf) <= api.MaxSub
}

func isByte(n int) bool { return 0 <= n && n <= 255 }

func isPlainCmd(n int) bool { return api.CSe <= n && n < api.CSb }

func isNegCmd(n int) bool { return api.CWill <= n && n <= api.CDont }

// Feed: P1.2.
func Feed(w api.Wire, s string) (api.Wire, []api.Tok, api.Errno) {
	if e := Check(w); e != api.OK {
		return w, nil, e
	}
	r := newReader(w)
	for i := range len(s) {
		r.take(s[i])
	}
	r.endData()
	return r.wire(), r.toks, api.OK
}

// Write: P1.3.
func Write(t api.Tok) (string, api.Errno) {
	if !isWritable(t) {
		return "", api.ErrArg
	}
	cmd, opt := byte(t.Cmd), byte(t.Opt)
	switch t.Kind {
	case api.TCmd:
		return string([]byte{api.CIac, cmd}), api.OK
	case api.TNeg:
		return string([]byte{api.CIac, cmd, opt}), api.OK
	case api.TSub:
		return writeSub(opt, t.Data)
	}
	return Escape(t.Data), api.OK
}

// isWritable holds a token against a bare one, which has only the fields that have a place in its Kind.
func isWritable(t api.Tok) bool {
	switch t.Kind {
	case api.TData:
		return t == api.Tok{Kind: t.Kind, Data: t.Data}
	case api.TCmd:
		return isPlainCmd(t.Cmd) && t == api.Tok{Kind: t.Kind, Cmd: t.Cmd}
	case api.TNeg:
		return isNegCmd(t.Cmd) && isByte(t.Opt) && t == api.Tok{Kind: t.Kind, Cmd: t.Cmd, Opt: t.Opt}
	case api.TSub:
		return isByte(t.Opt) && t == api.Tok{Kind: t.Kind, Opt: t.Opt, Data: t.Data}
	}
	return false
}

// writeSub leaves an option of 255 single: the byte behind CSb is the option, whatever it is.
func writeSub(opt byte, words string) (string, api.Errno) {
	if len(words) > api.MaxSub {
		return "", api.ErrLarge
	}
	head := string([]byte{api.CIac, api.CSb, opt})
	tail := string([]byte{api.CIac, api.CSe})
	return head + Escape(words) + tail, api.OK
}

// Escape: P1.3.
func Escape(s string) string { return strings.ReplaceAll(s, "\xff", "\xff\xff") }

// Merge: P1.4.
func Merge(l []api.Tok) []api.Tok {
	var out []api.Tok
	for len(l) > 0 {
		n := rowLen(l)
		if n == 0 {
			out = append(out, l[0])
			l = l[1:]
			continue
		}
		if one := joinRow(l[:n]); one.Data != "" {
			out = append(out, one)
		}
		l = l[n:]
	}
	return out
}

// rowLen tells how many TData stand at the front.
func rowLen(l []api.Tok) int {
	n := 0
	for n < len(l) && l[n].Kind == api.TData {
		n++
	}
	return n
}

// joinRow gathers bytes, not texts: a text that grows token by token would be copied each time.
func joinRow(row []api.Tok) api.Tok {
	var one api.Tok
	var all []byte
	for _, t := range row {
		if len(all) == 0 {
			one = t
		}
		all = append(all, t.Data...)
	}
	one.Data = string(all)
	return one
}
