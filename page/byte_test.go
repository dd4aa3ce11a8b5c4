package page_test

import (
	"math"
	"testing"

	"farwriter/api"
	"farwriter/page"
)

// byteOf goes through a page from its end, so that the least byte is the one that stays.
func byteOf(p, r int) (byte, api.Errno) {
	top := 127
	if p == api.PLatin {
		top = 255
	}
	found, e := byte(0), api.ErrNone
	for n := top; n >= 0; n-- {
		if runeOf(p, byte(n)) == r {
			found, e = byte(n), api.OK
		}
	}
	return found, e
}

func expectByte(t *testing.T, p, r int, want byte, wantErr api.Errno) {
	t.Helper()
	if b, e := page.Byte(p, r); b != want || e != wantErr {
		t.Errorf("Byte(%d, %d) = %d, %d; want %d, %d", p, r, b, e, want, wantErr)
	}
}

func TestByteByHand(t *testing.T) {
	for _, p := range allPages() {
		expectByte(t, p, 0, 0, api.OK)
		expectByte(t, p, '?', '?', api.OK)
		expectByte(t, p, 127, 127, api.OK)
		expectByte(t, p, 256, 0, api.ErrNone)
		expectByte(t, p, bad, 0, api.ErrNone)
	}
	expectByte(t, api.PAscii, '#', '#', api.OK)
	expectByte(t, api.PAscii, 128, 0, api.ErrNone)
	expectByte(t, api.PAscii, 163, 0, api.ErrNone)
	expectByte(t, api.PAscii, 255, 0, api.ErrNone)
	expectByte(t, api.PLatin, 128, 128, api.OK)
	expectByte(t, api.PLatin, 163, 163, api.OK)
	expectByte(t, api.PLatin, 255, 255, api.OK)
	expectByte(t, api.PLatin, 9472, 0, api.ErrNone)
	expectByte(t, api.PLines, 9472, 'q', api.OK)
	expectByte(t, api.PLines, 'q', 0, api.ErrNone)
	expectByte(t, api.PLines, 94, 94, api.OK)
	expectByte(t, api.PLines, 95, 0, api.ErrNone)
	expectByte(t, api.PLines, 126, 0, api.ErrNone)
	expectByte(t, api.PLines, 160, 95, api.OK)
	expectByte(t, api.PLines, 163, 125, api.OK)
	expectByte(t, api.PLines, 183, 126, api.OK)
	expectByte(t, api.PLines, '#', '#', api.OK)
	expectByte(t, api.PUk, 163, 35, api.OK)
	expectByte(t, api.PUk, 35, 0, api.ErrNone)
	expectByte(t, api.PUk, 'q', 'q', api.OK)
}

func TestByteOfEachRune(t *testing.T) {
	for _, p := range allPages() {
		for r := -300; r < 70000; r++ {
			want, e := byteOf(p, r)
			expectByte(t, p, r, want, e)
		}
	}
}

// noRunes has numbers whose low bits are those of a sign.
func noRunes() []int {
	return []int{
		math.MinInt, math.MinInt + 'A', math.MinInt32, math.MinInt32 + 'A', -65536 + 9472, -256 + 'A', -1,
		256 + 'A', 65536 + 'A', 65536 + 9472, 1114111, 1114112, math.MaxInt32,
		math.MaxInt - math.MaxUint32 + 'A', math.MaxInt - math.MaxUint32 + 9472, math.MaxInt,
	}
}

func TestByteOfNoRune(t *testing.T) {
	for _, p := range allPages() {
		for _, r := range noRunes() {
			expectByte(t, p, r, 0, api.ErrNone)
		}
	}
}

func TestByteOfNoPage(t *testing.T) {
	for _, p := range noPages() {
		for _, r := range append(noRunes(), 0, 'A', 163, 255, 9472, bad) {
			expectByte(t, p, r, 0, api.ErrNone)
		}
	}
}
