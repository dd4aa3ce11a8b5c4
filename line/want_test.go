package line_test

import (
	"fmt"
	"slices"
	"strings"
	"testing"

	"farwriter/api"
	"farwriter/line"
)

// told is all that Type tells.
type told struct {
	e     api.Editor
	lines []string
	echo  string
	err   api.Errno
}

func typed(e api.Editor, k api.Keys, m api.Mask, s string) told {
	after, lines, echo, err := line.Type(e, k, m, s)
	return told{after, lines, echo, err}
}

// String clips long texts, lest a failure fill the page.
func (w told) String() string {
	return fmt.Sprintf("%.100q of %d, %t, %d lines %.300q, %.200q of %d, %d",
		w.e.Buf, len(w.e.Buf), w.e.Quote, len(w.lines), fmt.Sprint(w.lines), w.echo, len(w.echo), w.err)
}

func same(a, b told) bool {
	return a.e == b.e && slices.Equal(a.lines, b.lines) && a.echo == b.echo && a.err == b.err
}

func expect(t *testing.T, e api.Editor, k api.Keys, m api.Mask, s string, want told) {
	t.Helper()
	if got := typed(e, k, m, s); !same(got, want) {
		t.Fatalf("Type(%.100q, %t, %v, %x, %.300q) = %v; want %v", e.Buf, e.Quote, k, m, s, got, want)
	}
}

// with is k, but for one function.
func with(k api.Keys, f int, level, char byte) api.Keys {
	k.Levels[f], k.Chars[f] = level, char
	return k
}

// usual has the keys that a client has, and two that send.
func usual() api.Keys {
	k := with(with(api.Keys{}, api.FChar, api.LValue, 127), api.FLine, api.LValue, 21)
	k = with(with(k, api.FWord, api.LFixed, 23), api.FShow, api.LValue, 18)
	k = with(with(k, api.FQuote, api.LFixed, 22), api.FSend1, api.LValue, '$')
	return with(k, api.FSend2, api.LFixed, '%')
}

// marks is the mask of these bytes.
func marks(s string) api.Mask {
	var m api.Mask
	for _, b := range []byte(s) {
		m.Bits[b/64] |= 1 << (b % 64)
	}
	return m
}

// wantTyped goes by P12.1's words, byte by byte, where there is no error.
func wantTyped(e api.Editor, k api.Keys, m api.Mask, s string) told {
	w := told{e: e}
	for i := 0; i < len(s); i++ {
		w = wantByte(w, k, m, s[i])
	}
	return w
}

func wantByte(w told, k api.Keys, m api.Mask, b byte) told {
	is := func(f int) bool { return k.Levels[f] != 0 && k.Chars[f] == b }
	switch {
	case w.e.Quote:
		w.e.Quote = false
		return wantPut(w, b)
	case is(14):
		w.e.Quote = true
	case is(10):
		if w.e.Buf != "" {
			w = wantGone(w)
		}
	case is(12):
		for strings.HasSuffix(w.e.Buf, " ") {
			w = wantGone(w)
		}
		for w.e.Buf != "" && !strings.HasSuffix(w.e.Buf, " ") {
			w = wantGone(w)
		}
	case is(11):
		for w.e.Buf != "" {
			w = wantGone(w)
		}
	case is(13):
		w.echo += "\x0d\x0a" + w.e.Buf
	case b == 13, b == 10, is(17), is(18), m.Bits[b/64]&(1<<(b%64)) != 0:
		full := len(w.e.Buf) == 1023
		w = wantPut(w, b)
		if !full {
			w = wantSent(w)
		}
	default:
		return wantPut(w, b)
	}
	return w
}

func wantPut(w told, b byte) told {
	one := string([]byte{b})
	w.e.Buf += one
	w.echo += one
	if len(w.e.Buf) == 1024 {
		w = wantSent(w)
	}
	return w
}

func wantSent(w told) told {
	w.lines = append(slices.Clip(w.lines), w.e.Buf)
	w.e.Buf = ""
	return w
}

func wantGone(w told) told {
	w.e.Buf = w.e.Buf[:len(w.e.Buf)-1]
	w.echo += "\x08\x20\x08"
	return w
}
