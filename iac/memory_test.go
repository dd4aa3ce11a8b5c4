package iac_test

import (
	"slices"
	"testing"

	"farwriter/api"
	"farwriter/iac"
)

var mark = api.Tok{Kind: 77, Cmd: 77, Opt: 77, Data: "mark"}

// fill writes over a list, the room behind it included.
func fill(l []api.Tok) {
	l = l[:cap(l)]
	for i := range l {
		l[i] = mark
	}
}

func mergeInputs() [][]api.Tok {
	a, cmd := api.Tok{Kind: api.TData, Data: "a"}, api.Tok{Kind: api.TCmd, Cmd: 241}
	return [][]api.Tok{nil, {}, {a}, {cmd}, {cmd, cmd}, {a, a}, {{Kind: api.TData}}, {a, {Kind: api.TData}, a, cmd, a}}
}

func TestMergeSharesNoMemory(t *testing.T) {
	for _, in := range mergeInputs() {
		room := append(slices.Clone(in), mark, mark, mark)
		kept := slices.Clone(room)
		got := iac.Merge(room[:len(in)])
		if !slices.Equal(room, kept) {
			t.Errorf("Merge(%q) changes what is handed in: %q", show(in), show(room))
		}
		want := slices.Clone(got)
		fill(got)
		if !slices.Equal(room, kept) {
			t.Errorf("Merge(%q): its answer is what was handed in", show(in))
		}
		again := iac.Merge(room[:len(in)])
		fill(room)
		if !slices.Equal(again, want) {
			t.Errorf("Merge(%q) keeps what was handed in", show(in))
		}
	}
}

func TestFeedKeepsNothing(t *testing.T) {
	for _, w := range goodWires() {
		for _, s := range []string{"", "a", "\xff\xf1b", "x\xff\xf0\xff\xfa\x01y\xff\xf0\xff\xfa\x02z"} {
			wire, toks, _ := iac.Feed(w, s)
			want := slices.Clone(toks)
			fill(toks)
			iac.Feed(api.Wire{}, "\xff\xfaother\xff\xf0other\xff")
			if again, l, e := iac.Feed(w, s); again != wire || !slices.Equal(l, want) || e != api.OK {
				t.Errorf("Feed(%.80q, %q) answers otherwise the second time: %q", show(w), s, show(l))
			}
		}
	}
}
