package line_test

import (
	"strings"
	"testing"

	"farwriter/api"
	"farwriter/line"
)

func TestCheck(t *testing.T) {
	for _, quote := range []bool{false, true} {
		for n := range 3000 {
			want := api.OK
			if n >= 1024 {
				want = api.ErrLarge
			}
			for _, b := range []string{"x", "\x00", "\r", " ", "\xff"} {
				if e := line.Check(api.Editor{Buf: strings.Repeat(b, n), Quote: quote}); e != want {
					t.Errorf("Check of %d bytes %q, %t = %d", n, b, quote, e)
				}
			}
		}
	}
	for _, n := range []int{4096, 65536, 65536 + 5, 1 << 20} {
		if e := line.Check(api.Editor{Buf: strings.Repeat("x", n)}); e != api.ErrLarge {
			t.Errorf("Check of %d bytes = %d", n, e)
		}
	}
}

// TestCheckCountsBytes, not runes.
func TestCheckCountsBytes(t *testing.T) {
	for _, c := range []struct {
		buf  string
		want api.Errno
	}{
		{strings.Repeat("\u20ac", 341), api.OK},
		{strings.Repeat("\u20ac", 341) + "x", api.ErrLarge},
		{strings.Repeat("\u00e4", 511) + "x", api.OK},
		{strings.Repeat("\u00e4", 512), api.ErrLarge},
	} {
		if e := line.Check(api.Editor{Buf: c.buf}); e != c.want {
			t.Errorf("Check of %d bytes = %d", len(c.buf), e)
		}
	}
}
