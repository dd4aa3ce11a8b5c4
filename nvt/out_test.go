package nvt_test

import (
	"strings"
	"testing"

	"farwriter/nvt"
)

// eachOf calls f with each text of at most n of the bytes.
func eachOf(bytes string, n int, f func(s string)) {
	f("")
	if n == 0 {
		return
	}
	for i := range len(bytes) {
		eachOf(bytes, n-1, func(s string) { f(bytes[i:i+1] + s) })
	}
}

// edges: the three bytes that mean something, and some that don't.
const edges = "\x00\n\ra\xff"

func expectOut(t *testing.T, s string, binary bool, want string) {
	t.Helper()
	if got := nvt.Out(s, binary); got != want {
		t.Errorf("Out(%.80q, %v) = %.80q; want %.80q", s, binary, got, want)
	}
}

func TestOutByHand(t *testing.T) {
	for s, want := range map[string]string{
		"":           "",
		"abc":        "abc",
		"a\nb\n":     "a\r\nb\r\n",
		"\n":         "\r\n",
		"\r":         "\r\x00",
		"\r\n":       "\r\x00\r\n",
		"\n\r":       "\r\n\r\x00",
		"\r\x00":     "\r\x00\x00",
		"\r\r\n\n":   "\r\x00\r\x00\r\n\r\n",
		"\x00":       "\x00",
		"a\rb":       "a\r\x00b",
		"\xff\n\xff": "\xff\r\n\xff",
	} {
		expectOut(t, s, false, want)
	}
}

func TestOutEachByte(t *testing.T) {
	for n := range 256 {
		s := string([]byte{byte(n)})
		want := s
		switch n {
		case 10:
			want = "\x0d\x0a"
		case 13:
			want = "\x0d\x00"
		}
		expectOut(t, s, false, want)
		expectOut(t, "a"+s+"b", false, "a"+want+"b")
		expectOut(t, s, true, s)
	}
}

// TestOutLeavesRunes has runes whose low bits, as numbers, are 10 or 13, and bytes that are no rune's.
func TestOutLeavesRunes(t *testing.T) {
	s := "é\u010a\u010d\u200a\u200d\u2028\u0085\x8a\x8d\xe2\x80"
	expectOut(t, s, false, s)
	expectOut(t, s, true, s)
}

func TestOutBinary(t *testing.T) {
	eachOf(edges, 4, func(s string) { expectOut(t, s, true, s) })
}

// TestOutOfPieces: each byte goes as it goes alone, whatever stands beside it.
func TestOutOfPieces(t *testing.T) {
	eachOf(edges, 5, func(s string) {
		whole := nvt.Out(s, false)
		for cut := range len(s) {
			expectOut(t, s, false, nvt.Out(s[:cut], false)+nvt.Out(s[cut:], false))
		}
		if strings.Count(whole, "\r") != strings.Count(s, "\r")+strings.Count(s, "\n") {
			t.Errorf("Out(%q) = %q", s, whole)
		}
	})
}

// TestOutLongText would take minutes if what is written so far were copied for each byte.
func TestOutLongText(t *testing.T) {
	n := 1 << 20
	expectOut(t, strings.Repeat("a\n\r", n), false, strings.Repeat("a\r\n\r\x00", n))
}
