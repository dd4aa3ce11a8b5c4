package utf_test

import (
	"math"
	"slices"
	"testing"

	"farwriter/api"
	"farwriter/utf"
)

func TestFlush(t *testing.T) {
	if l, e := utf.Flush(""); len(l) != 0 || e != api.OK {
		t.Errorf("Flush of nothing = %v, %d", l, e)
	}
	for part := range theModel().beginnings {
		if l, e := utf.Flush(part); !slices.Equal(l, []int{bad}) || e != api.OK {
			t.Errorf("Flush(%q) = %v, %d", part, l, e)
		}
	}
	for _, part := range badParts() {
		if l, e := utf.Flush(part); len(l) != 0 || e != api.ErrForm {
			t.Errorf("Flush(%.20q) = %v, %d", part, l, e)
		}
	}
}

func expectEncode(t *testing.T, want string, runes ...int) {
	t.Helper()
	if got := utf.Encode(runes); got != want {
		t.Errorf("Encode(%v) = %q; want %q", runes, got, want)
	}
}

func TestEncodeByHand(t *testing.T) {
	expectEncode(t, "")
	expectEncode(t, "\x00", 0)
	expectEncode(t, "a\xc3\xa9\xe2\x82\xac\xf0\x9f\x98\x80", 'a', 233, 8364, 128512)
	expectEncode(t, "\x7f\xc2\x80\xdf\xbf\xe0\xa0\x80", 127, 128, 2047, 2048)
	expectEncode(t, "\xed\x9f\xbf\xee\x80\x80", 55295, 57344)
	expectEncode(t, "\xef\xbf\xbd\xef\xbf\xbf\xf0\x90\x80\x80\xf4\x8f\xbf\xbf", bad, 65535, 65536, 1114111)
}

func TestEncodeEachRune(t *testing.T) {
	var all []int
	for n := range 1114112 {
		if isRune(n) {
			expectEncode(t, bytesOf(n), n)
			all = append(all, n)
		}
	}
	left, l, e := utf.Feed("", utf.Encode(all))
	if left != "" || !slices.Equal(l, all) || e != api.OK {
		t.Errorf("%q is left, %d runes of %d, %d", left, len(l), len(all), e)
	}
}

// TestEncodeNoRunes has numbers whose low bits are those of a rune.
func TestEncodeNoRunes(t *testing.T) {
	for _, n := range []int{
		math.MinInt, math.MinInt + 'a', math.MinInt32, math.MinInt32 + 'a', -1114111, -'a', -1,
		1114112, math.MaxInt32, math.MaxInt - math.MaxUint32 + 'a', math.MaxInt,
	} {
		expectEncode(t, "a\xef\xbf\xbdb", 'a', n, 'b')
	}
	for n := 55296; n <= 57343; n++ {
		expectEncode(t, "\xef\xbf\xbd", n)
	}
	expectEncode(t, "\xef\xbf\xbd\xef\xbf\xbd", -1, 55296)
}
