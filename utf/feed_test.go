package utf_test

import (
	"slices"
	"strings"
	"testing"

	"farwriter/api"
	"farwriter/utf"
)

// rune tells which rune stands at the front of s, and how many bytes it takes: 0, if none does.
func (m model) rune(s string) (int, int) {
	for n := 1; n <= min(4, len(s)); n++ {
		if r, ok := m.runes[s[:n]]; ok {
			return r, n
		}
	}
	return 0, 0
}

func (m model) beginning(s string) int {
	for n := min(3, len(s)); n > 0; n-- {
		if m.beginnings[s[:n]] {
			return n
		}
	}
	return 0
}

// feed reads as P2.2 has it, word by word.
func (m model) feed(s string) (string, []int) {
	var runes []int
	for s != "" {
		r, n := m.rune(s)
		if n == 0 {
			r, n = bad, m.beginning(s)
			if n == len(s) {
				return s, runes
			}
			n = max(n, 1)
		}
		runes = append(runes, r)
		s = s[n:]
	}
	return "", runes
}

func expectFeed(t *testing.T, part, s, left string, runes ...int) {
	t.Helper()
	got, l, e := utf.Feed(part, s)
	if got != left || !slices.Equal(l, runes) || e != api.OK {
		t.Errorf("Feed(%q, %.80q) = %q, %v, %d; want %q, %v", part, s, got, l, e, left, runes)
	}
}

func TestFeedByHand(t *testing.T) {
	expectFeed(t, "", "", "")
	expectFeed(t, "", "az\x00\x7f", "", 'a', 'z', 0, 127)
	expectFeed(t, "", "\xe2\x82", "\xe2\x82")
	expectFeed(t, "\xe2\x82", "", "\xe2\x82")
	expectFeed(t, "\xe2\x82", "\xac", "", 8364)
	expectFeed(t, "\xe2", "\x82", "\xe2\x82")
	expectFeed(t, "\xe2\x82", "a", "", bad, 'a')
	expectFeed(t, "\xe2\x82", "\xe2\x82\xac", "", bad, 8364)
	expectFeed(t, "\xe2", "\xe2", "\xe2", bad)
	expectFeed(t, "\xe2\x82", "\xc2", "\xc2", bad)
	expectFeed(t, "\xf0\x9f\x98", "a\x98", "", bad, 'a', bad)
	expectFeed(t, "\xf0\x9f\x98", "\x80\x80", "", 128512, bad)
	expectFeed(t, "", "\xf0\x9f\x98\xf0\x9f\x98", "\xf0\x9f\x98", bad)
	expectFeed(t, "", "\xef\xbf\xbda", "", bad, 'a')
	expectFeed(t, "", "\xff\xfe\x80", "", bad, bad, bad)
}

func TestFeedAtTheBounds(t *testing.T) {
	expectFeed(t, "", "\xc1\xbf\xc2\x80", "", bad, bad, 128)
	expectFeed(t, "", "\xe0\x9f\xbf\xe0\xa0\x80", "", bad, bad, bad, 2048)
	expectFeed(t, "", "\xed\x9f\xbf\xed\xa0\x80\xed\xbf\xbf\xee\x80\x80", "", 55295, bad, bad, bad, bad, bad, bad, 57344)
	expectFeed(t, "", "\xf0\x8f\xbf\xbf\xf0\x90\x80\x80", "", bad, bad, bad, bad, 65536)
	expectFeed(t, "", "\xf4\x8f\xbf\xbf\xf4\x90\x80\x80", "", 1114111, bad, bad, bad, bad)
	expectFeed(t, "\xf4", "\x90", "", bad, bad)
	expectFeed(t, "\xed", "\xa0", "", bad, bad)
}

func TestFeedEachRune(t *testing.T) {
	m := theModel()
	for s, r := range m.runes {
		expectFeed(t, "", s, "", r)
		for i := 1; i < len(s); i++ {
			expectFeed(t, "", s[:i], s[:i])
			expectFeed(t, s[:i], s[i:], "", r)
			expectFeed(t, s[:i], "a", "", bad, 'a')
		}
	}
}

func TestFeedEachShortText(t *testing.T) {
	m := theModel()
	expect := func(s string) {
		left, runes := m.feed(s)
		expectFeed(t, "", s, left, runes...)
	}
	eachOf(allBytes(), 2, expect)
	eachOf(edgeBytes(), 4, expect)
	eachOf([]byte("a\x80\xa0\xc2\xe2\xed\xf0"), 6, expect)
}

func TestFeedInPieces(t *testing.T) {
	eachOf([]byte("a\x80\x9f\xbf\xc2\xe0\xed\xf0\xf4"), 5, func(s string) {
		whole, runes, _ := utf.Feed("", s)
		for cut := range len(s) {
			mid, front, _ := utf.Feed("", s[:cut])
			left, back, e := utf.Feed(mid, s[cut:])
			if left != whole || !slices.Equal(append(front, back...), runes) || e != api.OK {
				t.Fatalf("%q, cut at %d: %q, not %q", s, cut, left, whole)
			}
		}
	})
}

func TestFeedByteByByte(t *testing.T) {
	s := strings.Repeat("a\xc3\xa9\xe2\x82\xac\xf0\x9f\x98\x80\xed\xa0\x80\xf0\x9f\xff\xf4\x8f\xbf", 50)
	whole, runes, _ := utf.Feed("", s)
	var part string
	var got []int
	for i := range len(s) {
		var l []int
		part, l, _ = utf.Feed(part, s[i:i+1])
		got = append(got, l...)
		if e := utf.Check(part); e != api.OK {
			t.Fatalf("behind byte %d %q is left", i, part)
		}
	}
	if part != whole || !slices.Equal(got, runes) {
		t.Errorf("%q, %v; want %q, %v", part, got, whole, runes)
	}
}

func badParts() []string {
	return []string{"a", "\x80", "\xff", "\xc0", "\xe2\x82\xac", "\xe2\x82a", "\xed\xa0", "\xf4\x90", "a\xe2", "\xe2\xe2", "\x00", strings.Repeat("\xe2", 5000)}
}

func TestFeedRefusesBadParts(t *testing.T) {
	for _, part := range badParts() {
		for _, s := range []string{"", "a", "\x82\xac", "\xe2"} {
			if left, l, e := utf.Feed(part, s); left != "" || len(l) != 0 || e != api.ErrForm {
				t.Errorf("Feed(%.20q, %q) = %q, %v, %d", part, s, left, l, e)
			}
		}
	}
}

// TestFeedLongText would take minutes if the bytes behind each rune were copied or read anew.
func TestFeedLongText(t *testing.T) {
	n := 1 << 20
	left, l, e := utf.Feed("\xe2", strings.Repeat("\x82\xac\xe2", n))
	if left != "\xe2" || e != api.OK || !slices.Equal(l, slices.Repeat([]int{8364}, n)) {
		t.Errorf("%q, %d runes, %d", left, len(l), e)
	}
}
