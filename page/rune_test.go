package page_test

import (
	"math"
	"testing"

	"farwriter/api"
	"farwriter/page"
)

const bad = 65533

func allPages() []int { return []int{api.PAscii, api.PLatin, api.PLines, api.PUk} }

// noPages has numbers whose low bits are those of a page.
func noPages() []int {
	return []int{
		math.MinInt, math.MinInt + 1, math.MinInt32, -256 + 1, -4, -2, -1, 0,
		5, 6, 256 + 1, 65536 + 2, math.MaxInt32, math.MaxInt - math.MaxUint32 + 3, math.MaxInt,
	}
}

// runeOf tells a byte's rune as P4.1 has it.
func runeOf(p int, b byte) int {
	if p == api.PLatin {
		return int(b)
	}
	if b > 127 {
		return bad
	}
	if p == api.PUk && b == '#' {
		return '£'
	}
	if r, ok := lines[b]; ok && p == api.PLines {
		return int(r)
	}
	return int(b)
}

// lines has the signs themselves, not their numbers, so that the program's list isn't held against a copy of it.
var lines = map[byte]rune{
	'_': '\u00a0', '`': '◆', 'a': '▒', 'b': '␉', 'c': '␌', 'd': '␍', 'e': '␊', 'f': '°',
	'g': '±', 'h': '␤', 'i': '␋', 'j': '┘', 'k': '┐', 'l': '┌', 'm': '└', 'n': '┼',
	'o': '⎺', 'p': '⎻', 'q': '─', 'r': '⎼', 's': '⎽', 't': '├', 'u': '┤', 'v': '┴',
	'w': '┬', 'x': '│', 'y': '≤', 'z': '≥', '{': 'π', '|': '≠', '}': '£', '~': '·',
}

func expectRune(t *testing.T, p int, b byte, want int) {
	t.Helper()
	if got, e := page.Rune(p, b); got != want || e != api.OK {
		t.Errorf("Rune(%d, %d) = %d, %d; want %d", p, b, got, e, want)
	}
}

func TestRuneByHand(t *testing.T) {
	expectRune(t, api.PAscii, 0, 0)
	expectRune(t, api.PAscii, '#', '#')
	expectRune(t, api.PAscii, 'q', 'q')
	expectRune(t, api.PAscii, 127, 127)
	expectRune(t, api.PAscii, 128, 65533)
	expectRune(t, api.PAscii, 255, 65533)
	expectRune(t, api.PLatin, 0, 0)
	expectRune(t, api.PLatin, '#', 35)
	expectRune(t, api.PLatin, 'q', 'q')
	expectRune(t, api.PLatin, 128, 128)
	expectRune(t, api.PLatin, 163, 163)
	expectRune(t, api.PLatin, 255, 255)
	expectRune(t, api.PLines, '#', '#')
	expectRune(t, api.PLines, 94, 94)
	expectRune(t, api.PLines, 95, 160)
	expectRune(t, api.PLines, 'q', 9472)
	expectRune(t, api.PLines, 126, 183)
	expectRune(t, api.PLines, 127, 127)
	expectRune(t, api.PLines, 128, 65533)
	expectRune(t, api.PLines, 223, 65533)
	expectRune(t, api.PUk, 34, 34)
	expectRune(t, api.PUk, 35, 163)
	expectRune(t, api.PUk, 36, 36)
	expectRune(t, api.PUk, 'q', 'q')
	expectRune(t, api.PUk, 163, 65533)
}

// TestRuneOfLines has the list as P4.1 tells it.
func TestRuneOfLines(t *testing.T) {
	for i, want := range []int{160, 9670, 9618, 9225, 9228, 9229, 9226, 176, 177, 9252, 9227, 9496, 9488, 9484, 9492, 9532, 9146, 9147, 9472, 9148, 9149, 9500, 9508, 9524, 9516, 9474, 8804, 8805, 960, 8800, 163, 183} {
		expectRune(t, api.PLines, byte(95+i), want)
	}
}

func TestRuneOfEachByte(t *testing.T) {
	for _, p := range allPages() {
		for n := range 256 {
			expectRune(t, p, byte(n), runeOf(p, byte(n)))
		}
	}
}

func TestRuneOfNoPage(t *testing.T) {
	for _, p := range noPages() {
		for n := range 256 {
			if r, e := page.Rune(p, byte(n)); r != 0 || e != api.ErrNone {
				t.Errorf("Rune(%d, %d) = %d, %d", p, n, r, e)
			}
		}
	}
}
