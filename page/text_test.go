package page_test

import (
	"slices"
	"strings"
	"testing"

	"farwriter/api"
	"farwriter/page"
)

// short cuts a list that would fill the screen.
func short(l []int) []int { return l[:min(len(l), 40)] }

func expectRead(t *testing.T, p int, s string, want ...int) {
	t.Helper()
	if l, e := page.Read(p, s); !slices.Equal(l, want) || e != api.OK {
		t.Errorf("Read(%d, %.80q) = %v, %d; want %v", p, s, short(l), e, short(want))
	}
}

func expectWrite(t *testing.T, p int, want string, lost int, runes ...int) {
	t.Helper()
	if s, n, e := page.Write(p, runes); s != want || n != lost || e != api.OK {
		t.Errorf("Write(%d, %v) = %.80q, %d, %d; want %.80q, %d", p, short(runes), s, n, e, want, lost)
	}
}

func TestReadByHand(t *testing.T) {
	for _, p := range allPages() {
		expectRead(t, p, "")
		expectRead(t, p, "BA?\x00\x7f", 'B', 'A', '?', 0, 127)
	}
	expectRead(t, api.PAscii, "a#\xc3\xa9", 'a', '#', bad, bad)
	expectRead(t, api.PLatin, "a#\xc3\xa9\xff", 'a', '#', 0xc3, 0xa9, 255)
	expectRead(t, api.PLines, "lqk\xf1#", 9484, 9472, 9488, bad, '#')
	expectRead(t, api.PUk, "#a\xa3#", 163, 'a', bad, 163)
}

func TestReadEachPair(t *testing.T) {
	for _, p := range allPages() {
		for a := range 256 {
			for b := range 256 {
				expectRead(t, p, string([]byte{byte(a), byte(b)}), runeOf(p, byte(a)), runeOf(p, byte(b)))
			}
		}
	}
}

func TestReadOfNoPage(t *testing.T) {
	for _, p := range noPages() {
		for _, s := range []string{"", "a", "\xff#q"} {
			if l, e := page.Read(p, s); len(l) != 0 || e != api.ErrNone {
				t.Errorf("Read(%d, %q) = %v, %d", p, s, l, e)
			}
		}
	}
}

func TestWriteByHand(t *testing.T) {
	for _, p := range allPages() {
		expectWrite(t, p, "", 0)
		expectWrite(t, p, "BA\x00\x7f", 0, 'B', 'A', 0, 127)
		expectWrite(t, p, "?", 0, '?')
		expectWrite(t, p, "??", 1, '?', bad)
		expectWrite(t, p, "?A?", 2, -1, 'A', 1114112)
	}
	expectWrite(t, api.PAscii, "#??", 2, '#', 163, 255)
	expectWrite(t, api.PLatin, "#\xa3\xff?", 1, '#', 163, 255, 256)
	expectWrite(t, api.PLines, "q?A}", 1, 9472, 'a', 'A', 163)
	expectWrite(t, api.PLines, "^????_~\x7f", 4, '^', '_', 'a', '}', '~', 160, 183, 127)
	expectWrite(t, api.PUk, "?#$?", 2, '#', 163, '$', 9472)
}

func TestWriteOfNoRunes(t *testing.T) {
	for _, p := range allPages() {
		expectWrite(t, p, strings.Repeat("?", len(noRunes())), len(noRunes()), noRunes()...)
	}
}

func TestWriteOfNoPage(t *testing.T) {
	for _, p := range noPages() {
		for _, runes := range [][]int{nil, {}, {'a'}, {-1, bad}} {
			if s, n, e := page.Write(p, runes); s != "" || n != 0 || e != api.ErrNone {
				t.Errorf("Write(%d, %v) = %q, %d, %d", p, runes, s, n, e)
			}
		}
	}
}

// TestWrittenIsReadAsMeant: what a page has comes back as it was, and all else as a question mark.
func TestWrittenIsReadAsMeant(t *testing.T) {
	for _, p := range allPages() {
		var runes, back []int
		lost := 0
		for r := range 10000 {
			runes, back = append(runes, r), append(back, r)
			if _, e := byteOf(p, r); e != api.OK {
				back[r] = '?'
				lost++
			}
		}
		s, n, e := page.Write(p, runes)
		if n != lost || e != api.OK {
			t.Errorf("page %d: %d are lost, %d; want %d", p, n, e, lost)
		}
		expectRead(t, p, s, back...)
		expectWrite(t, p, s, 0, back...)
	}
}

// TestLongText would take minutes if what is told so far were copied for each sign.
func TestLongText(t *testing.T) {
	n := 1 << 19
	expectRead(t, api.PLines, strings.Repeat("qA\xff", n), slices.Repeat([]int{9472, 'A', bad}, n)...)
	expectWrite(t, api.PLines, strings.Repeat("qA?", n), n, slices.Repeat([]int{9472, 'A', bad}, n)...)
}
