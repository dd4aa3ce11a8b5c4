package utf_test

import (
	"slices"
	"testing"

	"farwriter/api"
	"farwriter/utf"
)

const mark = 77777

// fill writes over a list, the room behind it included.
func fill(l []int) {
	l = l[:cap(l)]
	for i := range l {
		l[i] = mark
	}
}

func TestEncodeLeavesWhatIsHandedIn(t *testing.T) {
	for _, in := range [][]int{nil, {'a'}, {-1, 'b', 55296, 1114111, 1114112}} {
		room := append(slices.Clone(in), mark, mark, mark)
		kept := slices.Clone(room)
		want := utf.Encode(in)
		got := utf.Encode(room[:len(in)])
		if got != want || !slices.Equal(room, kept) {
			t.Errorf("Encode(%v) = %q, and leaves %v", in, got, room)
		}
	}
}

func TestFeedKeepsNothing(t *testing.T) {
	for _, part := range []string{"", "\xe2", "\xe2\x82"} {
		for _, s := range []string{"", "a", "\xac", "ab\xff\xe2\x82", "\xf0\x9f"} {
			left, l, _ := utf.Feed(part, s)
			want := slices.Clone(l)
			fill(l)
			utf.Feed("\xf0", "\x9f\x98\x80other\xc2")
			if again, l, e := utf.Feed(part, s); again != left || !slices.Equal(l, want) || e != api.OK {
				t.Errorf("Feed(%q, %q) answers otherwise the second time: %q, %v", part, s, again, l)
			}
		}
	}
}

func TestFlushKeepsNothing(t *testing.T) {
	for _, part := range []string{"", "\xe2"} {
		l, _ := utf.Flush(part)
		want := slices.Clone(l)
		fill(l)
		if again, e := utf.Flush(part); !slices.Equal(again, want) || e != api.OK {
			t.Errorf("Flush(%q) answers otherwise the second time: %v", part, again)
		}
	}
}
