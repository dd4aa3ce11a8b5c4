package about_test

import (
	"math"
	"strings"
	"testing"

	"farwriter/about"
	"farwriter/api"
)

func expectSize(t *testing.T, w, h int, want string) {
	t.Helper()
	if s, e := about.WriteSize(w, h); s != want || e != api.OK {
		t.Errorf("WriteSize(%d, %d) = %q, %d; want %q", w, h, s, e, want)
	}
	if gotW, gotH, e := about.ReadSize(want); gotW != w || gotH != h || e != api.OK {
		t.Errorf("ReadSize(%q) = %d, %d, %d; want %d, %d", want, gotW, gotH, e, w, h)
	}
}

func TestSizes(t *testing.T) {
	expectSize(t, 80, 24, "\x00\x50\x00\x18")
	expectSize(t, 256, 255, "\x01\x00\x00\xff")
	expectSize(t, 0x1234, 0xabcd, "\x12\x34\xab\xcd")
	expectSize(t, 0, 0, "\x00\x00\x00\x00")
	expectSize(t, 65535, 0, "\xff\xff\x00\x00")
	expectSize(t, 0, 65535, "\x00\x00\xff\xff")
	expectSize(t, 65535, 65535, "\xff\xff\xff\xff")
}

func TestEachSize(t *testing.T) {
	for n := range 65536 {
		high, low := byte(n/256), byte(n%256)
		expectSize(t, n, 24, string([]byte{high, low, 0, 24}))
		expectSize(t, 80, n, string([]byte{0, 80, high, low}))
	}
}

// noSizes has numbers out of bounds, some of them with the low bits of a right one.
func noSizes() []int {
	return []int{math.MinInt, -1 << 32, -65536, -1, 65536, 65536 + 80, 1 << 31, 1 << 32, 1<<32 + 80, math.MaxInt}
}

func TestWriteSizeRefuses(t *testing.T) {
	refuse := func(w, h int) {
		if s, e := about.WriteSize(w, h); s != "" || e != api.ErrArg {
			t.Errorf("WriteSize(%d, %d) = %q, %d", w, h, s, e)
		}
	}
	for _, n := range noSizes() {
		for _, other := range []int{0, 80, 65535, -1, 65536} {
			refuse(n, other)
			refuse(other, n)
		}
	}
}

func TestReadSizeRefuses(t *testing.T) {
	for n := range 300 {
		want := api.ErrForm
		switch {
		case n < 4:
			want = api.ErrShort
		case n == 4:
			continue
		}
		for _, b := range []string{"\x00", "\x01", "\xff"} {
			if w, h, e := about.ReadSize(strings.Repeat(b, n)); w != 0 || h != 0 || e != want {
				t.Errorf("ReadSize of %d times %q = %d, %d, %d; want %d", n, b, w, h, e, want)
			}
		}
	}
}
