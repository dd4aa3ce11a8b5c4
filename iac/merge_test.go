package iac_test

import (
	"math"
	"slices"
	"strings"
	"testing"

	"farwriter/api"
	"farwriter/iac"
)

func expectMerge(t *testing.T, l []api.Tok, want ...api.Tok) {
	t.Helper()
	if got := iac.Merge(l); !slices.Equal(got, want) {
		t.Errorf("Merge(%q) = %q; want %q", show(l), show(got), show(want))
	}
}

func TestMerge(t *testing.T) {
	a, b, none := api.Tok{Kind: api.TData, Data: "a"}, api.Tok{Kind: api.TData, Data: "b"}, api.Tok{Kind: api.TData}
	cmd := api.Tok{Kind: api.TCmd, Cmd: 241}
	both := api.Tok{Kind: api.TData, Data: "ab"}
	expectMerge(t, nil)
	expectMerge(t, []api.Tok{})
	expectMerge(t, []api.Tok{none})
	expectMerge(t, []api.Tok{none, none, none})
	expectMerge(t, []api.Tok{a}, a)
	expectMerge(t, []api.Tok{a, b}, both)
	expectMerge(t, []api.Tok{none, a, none, none, b, none}, both)
	expectMerge(t, []api.Tok{a, cmd, b}, a, cmd, b)
	expectMerge(t, []api.Tok{a, b, cmd, a, b}, both, cmd, both)
	expectMerge(t, []api.Tok{cmd, none, cmd, none}, cmd, cmd)
}

func TestMergeLeavesOtherTokens(t *testing.T) {
	others := []api.Tok{
		{}, {}, {Kind: api.TCmd}, {Kind: api.TCmd, Data: "x"}, {Kind: api.TNeg, Cmd: 9, Opt: 9},
		{Kind: api.TSub}, {Kind: api.TSub, Opt: 1, Data: "x"}, {Kind: api.TSub, Opt: 1, Data: "x"},
		{Kind: api.TBad}, {Kind: api.TBad}, {Kind: -1, Data: "x"}, {Kind: math.MaxInt, Cmd: math.MinInt, Opt: math.MaxInt},
	}
	expectMerge(t, others, others...)
}

func TestMergeKeepsFieldsOfTheFirstWithAByte(t *testing.T) {
	expectMerge(t, []api.Tok{
		{Kind: api.TData, Cmd: 1, Opt: 2},
		{Kind: api.TData, Cmd: -3, Opt: 4, Data: "a"},
		{Kind: api.TData, Cmd: 5, Opt: 6},
		{Kind: api.TData, Cmd: 7, Opt: 8, Data: "b"},
	}, api.Tok{Kind: api.TData, Cmd: -3, Opt: 4, Data: "ab"})
	expectMerge(t, []api.Tok{{Kind: api.TData, Cmd: 1}, {Kind: api.TData, Opt: 1}})
	expectMerge(t, []api.Tok{{Kind: api.TData, Data: "a"}, {Kind: api.TData, Cmd: 1, Data: "b"}}, api.Tok{Kind: api.TData, Data: "ab"})
}

// TestMergeLongRow would take minutes if each token had all the bytes ahead of it copied.
func TestMergeLongRow(t *testing.T) {
	n := 1 << 19
	expect := api.Tok{Kind: api.TData, Data: strings.Repeat("xyz", n)}
	got := iac.Merge(slices.Repeat([]api.Tok{{Kind: api.TData, Data: "xyz"}}, n))
	if len(got) != 1 || got[0] != expect {
		t.Errorf("%d tokens", len(got))
	}
}
