package about_test

import (
	"slices"
	"testing"

	"farwriter/about"
	"farwriter/api"
)

const mark = "mark"

// fill writes over a list, the room behind it included.
func fill(l []string) {
	l = l[:cap(l)]
	for i := range l {
		l[i] = mark
	}
}

// call is one of the calls that take names; it tells a list of names, if it has one to tell.
type call struct {
	what string
	do   func(names []string) []string
}

func calls() []call {
	l := []call{{"Check", func(names []string) []string { about.Check(api.Sorts{Names: names}); return nil }}}
	for _, at := range []int{-1, 0, 1, 2, 9} {
		for _, data := range []string{"\x01", "\x00"} {
			l = append(l, call{"Answer", func(names []string) []string {
				s, _, _ := about.Answer(api.Sorts{Names: names, At: at}, data)
				return s.Names
			}})
		}
	}
	for _, times := range []int{-1, 0, 1, 2, 8, 100} {
		l = append(l, call{"Walk", func(names []string) []string { told, _ := about.Walk(names, times); return told }})
	}
	return l
}

func TestNamesShareNoMemory(t *testing.T) {
	for _, c := range calls() {
		for _, in := range [][]string{nil, {}, {"A"}, {"A", "B"}, {"A", "A"}, {"a b"}, names(8), names(9)} {
			room := append(slices.Clone(in), mark, mark, mark)
			kept := slices.Clone(room)
			got := c.do(room[:len(in)])
			want := slices.Clone(got)
			if !slices.Equal(room, kept) {
				t.Errorf("%s changes what is handed in: %q", c.what, room)
			}
			fill(room)
			if !slices.Equal(got, want) {
				t.Errorf("%s(%q) keeps what is handed in", c.what, in)
			}
			copy(room, kept)
			fill(got)
			if !slices.Equal(room, kept) {
				t.Errorf("%s(%q): its answer is what was handed in", c.what, in)
			}
			if again := c.do(room[:len(in)]); !slices.Equal(again, want) {
				t.Errorf("%s(%q) answers otherwise the second time: %q", c.what, in, again)
			}
		}
	}
}

// TestRoundIsNotKept: how far a round went is known only by what is handed in.
func TestRoundIsNotKept(t *testing.T) {
	s := api.Sorts{Names: []string{"A", "B"}}
	for range 3 {
		expectAnswer(t, s, "\x01", api.Sorts{Names: s.Names, At: 1}, "\x00A", api.OK)
		expectWalk(t, s.Names, 1, api.OK, "A")
	}
}
