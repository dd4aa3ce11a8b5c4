package nvt_test

import (
	"strings"
	"testing"

	"farwriter/nvt"
)

// read takes from the front what is known to stand there, as P3.2 has it: the 13 that waits is laid ahead of s.
func read(cr bool, s string) (bool, string) {
	if cr {
		s = "\r" + s
	}
	var text string
	for s != "" {
		switch {
		case s == "\r":
			return true, text
		case strings.HasPrefix(s, "\r\n"):
			text, s = text+"\n", s[2:]
		case strings.HasPrefix(s, "\r\x00"):
			text, s = text+"\r", s[2:]
		default:
			text, s = text+s[:1], s[1:]
		}
	}
	return false, text
}

func expectIn(t *testing.T, cr bool, s string, binary bool, wait bool, text string) {
	t.Helper()
	if w, got := nvt.In(cr, s, binary); w != wait || got != text {
		t.Errorf("In(%v, %.80q, %v) = %v, %.80q; want %v, %.80q", cr, s, binary, w, got, wait, text)
	}
}

func TestInByHand(t *testing.T) {
	for _, c := range []struct {
		cr   bool
		s    string
		wait bool
		text string
	}{
		{false, "", false, ""},
		{true, "", true, ""},
		{false, "abc", false, "abc"},
		{false, "a\r\nb\r\n", false, "a\nb\n"},
		{false, "\r", true, ""},
		{false, "a\r", true, "a"},
		{false, "\r\x00", false, "\r"},
		{false, "\ra", false, "\ra"},
		{false, "\r\r", true, "\r"},
		{false, "\r\r\n", false, "\r\n"},
		{false, "\r\r\x00", false, "\r\r"},
		{false, "\r\r\r", true, "\r\r"},
		{false, "\n", false, "\n"},
		{false, "\x00", false, "\x00"},
		{false, "\n\r", true, "\n"},
		{false, "\r\n\n", false, "\n\n"},
		{false, "\r\x00\n", false, "\r\n"},
		{false, "\r\x00\x00", false, "\r\x00"},
		{false, "\r\n\x00", false, "\n\x00"},
		{true, "\n", false, "\n"},
		{true, "\x00", false, "\r"},
		{true, "a", false, "\ra"},
		{true, "\r", true, "\r"},
		{true, "\r\n", false, "\r\n"},
		{true, "\n\x00", false, "\n\x00"},
		{true, "\xff\r", true, "\r\xff"},
	} {
		expectIn(t, c.cr, c.s, false, c.wait, c.text)
	}
}

func TestInEachByte(t *testing.T) {
	for n := range 256 {
		s := string([]byte{byte(n)})
		alone, behind := s, "\r"+s
		switch n {
		case 0:
			behind = "\r"
		case 10:
			behind = "\n"
		case 13:
			alone, behind = "", "\r"
		}
		expectIn(t, false, s, false, n == 13, alone)
		expectIn(t, true, s, false, n == 13, behind)
		expectIn(t, false, "\r"+s, false, n == 13, behind)
	}
}

// TestInLeavesRunes has runes whose low bits, as numbers, are 0, 10 or 13, and bytes that are no rune's.
func TestInLeavesRunes(t *testing.T) {
	s := "é\u010d\u010a\u200d\u2000\u0100\x8d\x8a\x80\xe2\x80"
	expectIn(t, false, s, false, false, s)
	expectIn(t, true, s, false, false, "\r"+s)
}

func TestInEachShortText(t *testing.T) {
	eachOf(edges, 6, func(s string) {
		for _, cr := range []bool{false, true} {
			wait, text := read(cr, s)
			expectIn(t, cr, s, false, wait, text)
		}
	})
}

func TestInBinary(t *testing.T) {
	expectIn(t, false, "", true, false, "")
	expectIn(t, true, "", true, false, "\r")
	expectIn(t, true, "\n", true, false, "\r\n")
	expectIn(t, true, "\x00", true, false, "\r\x00")
	expectIn(t, true, "\r", true, false, "\r\r")
	expectIn(t, false, "a\r", true, false, "a\r")
	eachOf(edges, 4, func(s string) {
		expectIn(t, false, s, true, false, s)
		expectIn(t, true, s, true, false, "\r"+s)
	})
}

func TestInPieces(t *testing.T) {
	eachOf(edges, 6, func(s string) {
		for _, cr := range []bool{false, true} {
			wait, text := nvt.In(cr, s, false)
			for cut := range len(s) + 1 {
				mid, front := nvt.In(cr, s[:cut], false)
				end, back := nvt.In(mid, s[cut:], false)
				if end != wait || front+back != text {
					t.Fatalf("%v, %q, cut at %d: %v, %q; want %v, %q", cr, s, cut, end, front+back, wait, text)
				}
			}
		}
	})
}

// TestInTurnsBinary: a 13 that waits while the stream turns binary is told ahead of what follows.
func TestInTurnsBinary(t *testing.T) {
	wait, front := nvt.In(false, "a\r", false)
	end, back := nvt.In(wait, "\nb\r", true)
	if end || front+back != "a\r\nb\r" {
		t.Errorf("%v, %q", end, front+back)
	}
}

func TestSentIsReadAsMeant(t *testing.T) {
	eachOf(edges, 6, func(s string) {
		expectIn(t, false, nvt.Out(s, false), false, false, s)
		expectIn(t, false, nvt.Out(s, true), true, false, s)
	})
}

func TestFlush(t *testing.T) {
	if s := nvt.Flush(true); s != "\x0d" {
		t.Errorf("Flush(true) = %q", s)
	}
	if s := nvt.Flush(false); s != "" {
		t.Errorf("Flush(false) = %q", s)
	}
}

// TestKeepsNothing: a 13 that waits is known only by what is handed in.
func TestKeepsNothing(t *testing.T) {
	for range 2 {
		expectIn(t, false, "a\r", false, true, "a")
		expectIn(t, false, "\nb", false, false, "\nb")
		expectIn(t, true, "\nb", false, false, "\nb")
		expectIn(t, false, "\x00", false, false, "\x00")
		if s := nvt.Flush(false); s != "" {
			t.Errorf("Flush(false) = %q", s)
		}
	}
}

// TestInLongText would take minutes if what is read so far were copied for each byte.
func TestInLongText(t *testing.T) {
	n := 1 << 20
	expectIn(t, true, strings.Repeat("\na\r\x00\r", n), false, true, strings.Repeat("\na\r", n))
	expectIn(t, true, strings.Repeat("\r", n), false, true, strings.Repeat("\r", n))
}
