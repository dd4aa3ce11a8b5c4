package choice_test

import (
	"slices"
	"testing"

	"farwriter/choice"
)

const mark = "mark"

// call is one of the calls, with all that it tells as a list.
type call struct {
	what string
	do   func(names []string) []any
}

func calls() []call {
	l := []call{{"Ask", func(names []string) []any { s, e := choice.Ask(names); return []any{s, e} }}}
	for _, data := range []string{"", "\x01;mark", "\x01;a;mark", "\x01;ISO8859:3;a", "\x01;", "\x02mark", "\x02A", "\x02ISO8859:8", "\x03"} {
		l = append(l,
			call{"Answer", func(names []string) []any { s, own, e := choice.Answer(names, data); return []any{s, own, e} }},
			call{"Told", func(names []string) []any { s, e := choice.Told(names, data); return []any{s, e} }})
	}
	return l
}

// TestNamesAreNotChanged, nor is the room behind them looked at, nor anything kept for the next call.
func TestNamesAreNotChanged(t *testing.T) {
	for _, c := range calls() {
		for _, in := range [][]string{nil, {}, {"a"}, {"A", "a"}, {"a b"}, {parts}, pages(8), pages(9)} {
			want := c.do(slices.Clip(slices.Clone(in)))
			room := append(slices.Clone(in), mark, mark, mark)
			kept := slices.Clone(room)
			for range 2 {
				if got := c.do(room[:len(in)]); !slices.Equal(got, want) {
					t.Errorf("%s(%q) tells %q; without room behind the names %q", c.what, in, got, want)
				}
				c.do([]string{mark})
			}
			if !slices.Equal(room, kept) {
				t.Errorf("%s changes what is handed in: %q", c.what, room)
			}
		}
	}
}
