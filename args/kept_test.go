package args_test

import (
	"slices"
	"strings"
	"testing"

	"farwriter/api"
	"farwriter/args"
)

// TestNumbersAreNotChanged, nor is the room behind them looked at, nor anything kept for the next call.
func TestNumbersAreNotChanged(t *testing.T) {
	for _, in := range [][]int{nil, {}, {-1}, {0}, {7, -1}, {-2}, {16384, 3}, numbered(32), numbered(33), repeated(-1, 40)} {
		want, err := args.Write(slices.Clip(slices.Clone(in)))
		room := append(slices.Clone(in), 99, -99, 99)
		kept := slices.Clone(room)
		for range 2 {
			expectWrite(t, room[:len(in)], want, err)
			for i := -1; i <= len(room); i++ {
				args.Get(room[:len(in)], i, 9)
			}
			expectGet(t, room[:len(in)], len(in), 9, 9)
			args.Write([]int{1, 2, 3})
		}
		if !slices.Equal(room, kept) {
			t.Errorf("changed: %v; it was %v", room, kept)
		}
	}
}

// TestNothingIsKept: it is no matter what is written over a list that was told, and over the room behind it.
func TestNothingIsKept(t *testing.T) {
	for _, s := range []string{"", ";", "7;", "1;2;3", strings.Repeat("5;", 31), strings.Repeat("5;", 32), strings.Repeat(";", 100), "x", "1;2;x"} {
		first, err := args.Read(s)
		kept := slices.Clone(first)
		room := first[:cap(first)]
		for i := range room {
			room[i] = 99
		}
		expectRead(t, "4;5;6", []int{4, 5, 6}, api.OK)
		second, _ := args.Read(s)
		args.Read("8;9")
		if !slices.Equal(second, kept) {
			t.Errorf("Read(%q) = %v; it was %v", s, second, kept)
		}
		for i := range room {
			if room[i] != 99 {
				t.Errorf("Read(%q) writes over what it told", s)
			}
		}
		expectRead(t, s, kept, err)
	}
}
