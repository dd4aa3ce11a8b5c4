package mask_test

import (
	"strings"
	"testing"

	"farwriter/api"
	"farwriter/mask"
)

// written is what Write writes of a set: 256 signs, eight a byte, the highest one first.
func written(s string) string {
	var l []byte
	for i := range 32 {
		sum := 0
		for b := i * 8; b < i*8+8; b++ {
			sum *= 2
			if strings.IndexByte(s, byte(b)) >= 0 {
				sum++
			}
		}
		l = append(l, byte(sum))
	}
	return strings.TrimRight(string(l), "\x00")
}

func expectWrite(t *testing.T, m api.Mask, want string) {
	t.Helper()
	if got := mask.Write(m); got != want {
		t.Errorf("Write(%x) = %x; want %x", m, got, want)
	}
}

func expectRead(t *testing.T, s string, want api.Mask, err api.Errno) {
	t.Helper()
	if m, e := mask.Read(s); m != want || e != err {
		t.Errorf("Read(%.200x) = %x, %d; want %x, %d", s, m, e, want, err)
	}
}

func TestWrittenByHand(t *testing.T) {
	for _, c := range []struct{ bytes, text string }{
		{"", ""},
		{"\x00", "\x80"},
		{"\x01", "\x40"},
		{"\x07", "\x01"},
		{"\x08", "\x00\x80"},
		{"\x0a\x0d", "\x00\x24"},
		{"\x00\x07\x08", "\x81\x80"},
		{"\x01\x11", "\x40\x00\x40"},
		{"\x3f", "\x00\x00\x00\x00\x00\x00\x00\x01"},
		{"\x40", "\x00\x00\x00\x00\x00\x00\x00\x00\x80"},
		{"\x00\x01\x02\x03\x04\x05\x06\x07", "\xff"},
		{"\xf8", strings.Repeat("\x00", 31) + "\x80"},
		{"\xff", strings.Repeat("\x00", 31) + "\x01"},
		{every(1, 0), strings.Repeat("\xff", 32)},
		{every(2, 0), strings.Repeat("\xaa", 32)},
		{every(2, 1), strings.Repeat("\x55", 32)},
	} {
		expectWrite(t, wantMask(c.bytes), c.text)
		expectRead(t, c.text, wantMask(c.bytes), api.OK)
	}
}

func TestWrite(t *testing.T) {
	for _, s := range sets() {
		expectWrite(t, wantMask(s), written(s))
	}
}

// TestRead also with each number of bytes 0 behind what is written that there may be.
func TestRead(t *testing.T) {
	for _, s := range sets() {
		for text := written(s); len(text) <= 32; text += "\x00" {
			expectRead(t, text, wantMask(s), api.OK)
		}
	}
}

// TestReadEachByte: each byte at each place is read as its bits say, and is written so.
func TestReadEachByte(t *testing.T) {
	for place := range 32 {
		for b := range 256 {
			var want api.Mask
			for bit := range 8 {
				if b&(128>>bit) != 0 {
					want.Bits[place/8] |= uint64(1) << (place%8*8 + bit)
				}
			}
			text := strings.Repeat("\x00", place) + string([]byte{byte(b)})
			expectRead(t, text, want, api.OK)
			expectWrite(t, want, strings.TrimRight(text, "\x00"))
			expectRead(t, text+strings.Repeat("\x00", 31-place), want, api.OK)
		}
	}
}

// TestReadRefuses more than 32 bytes, whatever they are.
func TestReadRefuses(t *testing.T) {
	for _, n := range []int{33, 34, 40, 64, 255, 256, 256 + 1, 256 + 32, 65536 + 2, 1 << 20} {
		for _, b := range []string{"\x00", "\x01", "\x80", "\xff"} {
			expectRead(t, strings.Repeat(b, n), api.Mask{}, api.ErrLarge)
		}
	}
	for _, s := range sets() {
		text := written(s)
		expectRead(t, text+strings.Repeat("\x00", 33-len(text)), api.Mask{}, api.ErrLarge)
		expectRead(t, strings.Repeat("\x00", 33)+text, api.Mask{}, api.ErrLarge)
	}
}
