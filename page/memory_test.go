package page_test

import (
	"slices"
	"testing"

	"farwriter/api"
	"farwriter/page"
)

const mark = 77777

// fill writes over a list, the room behind it included.
func fill(l []int) {
	l = l[:cap(l)]
	for i := range l {
		l[i] = mark
	}
}

func TestWriteLeavesWhatIsHandedIn(t *testing.T) {
	for _, p := range append(allPages(), 0, 5) {
		for _, in := range [][]int{nil, {'a'}, {-1, 'b', 163, 9472, bad}} {
			room := append(slices.Clone(in), mark, mark, mark)
			kept := slices.Clone(room)
			want, wantLost, wantErr := page.Write(p, in)
			got, lost, e := page.Write(p, room[:len(in)])
			if got != want || lost != wantLost || e != wantErr || !slices.Equal(room, kept) {
				t.Errorf("Write(%d, %v) = %q, %d, %d, and leaves %v", p, in, got, lost, e, room)
			}
		}
	}
}

// TestReadKeepsNothing has a text of all of PLines' signs: what is answered must not be the page's own list.
func TestReadKeepsNothing(t *testing.T) {
	for _, p := range allPages() {
		for _, s := range []string{"", "#", "_`abcdefghijklmnopqrstuvwxyz{|}~", "\xff"} {
			l, _ := page.Read(p, s)
			want := slices.Clone(l)
			fill(l)
			page.Read(api.PUk, "other")
			if again, e := page.Read(p, s); !slices.Equal(again, want) || e != api.OK {
				t.Errorf("Read(%d, %q) answers otherwise the second time: %v", p, s, again)
			}
		}
	}
}

// TestPageIsNotKept: which page is in use is known only by what is handed in.
func TestPageIsNotKept(t *testing.T) {
	for range 2 {
		expectRead(t, api.PLines, "q#", 9472, '#')
		expectRead(t, api.PUk, "q#", 'q', 163)
		expectWrite(t, api.PLatin, "\xa3", 0, 163)
		expectWrite(t, api.PLines, "}", 0, 163)
		expectWrite(t, api.PAscii, "?", 1, 163)
	}
}
