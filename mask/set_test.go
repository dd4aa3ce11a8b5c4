package mask_test

import (
	"slices"
	"strings"
	"testing"

	"farwriter/api"
	"farwriter/mask"
)

// sets has texts whose bytes rise, each once: none, each alone, each pair of the bounds of words and of written bytes, all, all but each, and each so many-th.
func sets() []string {
	l := []string{"", every(1, 0)}
	for b := range 256 {
		l = append(l, string([]byte{byte(b)}), without(byte(b)))
	}
	bounds := []byte{0, 1, 6, 7, 8, 9, 15, 16, 31, 32, 62, 63, 64, 65, 71, 72, 127, 128, 129, 191, 192, 193, 247, 248, 254, 255}
	for i, high := range bounds {
		for _, low := range bounds[:i] {
			l = append(l, string([]byte{low, high}))
		}
	}
	for step := 2; step <= 70; step++ {
		l = append(l, every(step, 0), every(step, step-1))
	}
	return l
}

// every has each so many-th byte, from one of them on.
func every(step, first int) string {
	var l []byte
	for b := first; b < 256; b += step {
		l = append(l, byte(b))
	}
	return string(l)
}

// without has all bytes but one.
func without(b byte) string {
	all := every(1, 0)
	return all[:b] + all[int(b)+1:]
}

// wantMask sets bit b%64 of Bits[b/64] for each byte of s.
func wantMask(s string) api.Mask {
	var m api.Mask
	for _, b := range []byte(s) {
		m.Bits[int(b)/64] |= uint64(1) << (int(b) % 64)
	}
	return m
}

func TestHas(t *testing.T) {
	for _, s := range sets() {
		m := wantMask(s)
		for b := range 256 {
			if got, want := mask.Has(m, byte(b)), strings.IndexByte(s, byte(b)) >= 0; got != want {
				t.Errorf("Has(%x, %d) = %t", m, b, got)
			}
		}
	}
}

func TestHasByHand(t *testing.T) {
	m := api.Mask{Bits: [4]uint64{1 << 9, 1, 0, 1 << 63}}
	for _, c := range []struct {
		b    byte
		want bool
	}{{9, true}, {64, true}, {255, true}, {0, false}, {8, false}, {10, false}, {54, false}, {63, false}, {65, false}, {73, false}, {127, false}, {192, false}, {254, false}} {
		if got := mask.Has(m, c.b); got != c.want {
			t.Errorf("Has(%x, %d) = %t", m, c.b, got)
		}
	}
}

func expectOf(t *testing.T, s string, want api.Mask) {
	t.Helper()
	if got := mask.Of(s); got != want {
		t.Errorf("Of(%.300x) = %x; want %x", s, got, want)
	}
}

func TestOfByHand(t *testing.T) {
	expectOf(t, "", api.Mask{})
	expectOf(t, "\x00", api.Mask{Bits: [4]uint64{1}})
	expectOf(t, "\x3f\x40", api.Mask{Bits: [4]uint64{1 << 63, 1}})
	expectOf(t, "\x80\xbf", api.Mask{Bits: [4]uint64{0, 0, 1 | 1<<63}})
	expectOf(t, "\xff\x0d\x03\x0d", api.Mask{Bits: [4]uint64{1<<3 | 1<<13, 0, 0, 1 << 63}})
}

// TestOf: neither the order of the bytes nor how often one comes is of any matter.
func TestOf(t *testing.T) {
	for _, s := range sets() {
		want := wantMask(s)
		back := []byte(s)
		slices.Reverse(back)
		for _, text := range []string{s, string(back), s + s, string(back) + s, strings.Repeat(s, 50)} {
			expectOf(t, text, want)
		}
	}
}

// TestOfTakesBytes: also where they are a rune's, or none's, each of them counts for itself.
func TestOfTakesBytes(t *testing.T) {
	expectOf(t, "\u20ac", wantMask("\x82\xac\xe2"))
	expectOf(t, "\xff\xc0\x80a", wantMask("a\x80\xc0\xff"))
	expectOf(t, "\ufffd", wantMask("\xbd\xbf\xef"))
}

func TestBytes(t *testing.T) {
	for _, s := range sets() {
		if got := mask.Bytes(wantMask(s)); got != s {
			t.Errorf("Bytes(%x) = %x; want %x", wantMask(s), got, s)
		}
	}
	if got := mask.Bytes(mask.Of("wire\xff\x00wire")); got != "\x00eirw\xff" {
		t.Errorf("%q", got)
	}
}

// TestNothingIsKept from one mask to the next one.
func TestNothingIsKept(t *testing.T) {
	for _, s := range sets() {
		mask.Of(every(1, 0))
		expectOf(t, s, wantMask(s))
		if _, e := mask.Read(strings.Repeat("\xff", 32)); e != api.OK {
			t.Error(e)
		}
		expectRead(t, written(s), wantMask(s), api.OK)
	}
}
