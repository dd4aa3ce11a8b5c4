package pen_test

import (
	"slices"
	"testing"

	"farwriter/api"
	"farwriter/pen"
)

// TestNumbersAreNotChanged, nor is the room behind them looked at, nor anything kept for the next call.
func TestNumbersAreNotChanged(t *testing.T) {
	for _, in := range [][]int{nil, {}, {-1}, {4, -1, 31}, {38}, {38, 5}, {48, 5, -1}, {38, 2}, {38, 2, 1}, {38, 2, 1, 2}, {38, 2, -1, 2, -1}, {-2}, {16384, 3}, repeated(-1, 32), repeated(38, 33)} {
		for _, behind := range [][]int{{5, 7, 1, 1}, {7, 7, 7, 7}, {-2, -2, -2, -2}} {
			room := append(slices.Clone(in), behind...)
			kept := slices.Clone(room)
			for range 2 {
				expectAsRead(t, full, room[:len(in)])
				pen.Sgr(api.Pen{Flags: 8}, []int{1, 38, 5, 9})
			}
			if !slices.Equal(room, kept) {
				t.Errorf("changed: %v; it was %v", room, kept)
			}
		}
	}
}

// TestNothingIsKept: it is no matter what is written over a list that was told, and over the room behind it.
func TestNothingIsKept(t *testing.T) {
	for _, from := range somePens() {
		for _, to := range somePens() {
			first, _ := pen.Change(from, to)
			kept := slices.Clone(first)
			room := first[:cap(first)]
			for i := range room {
				room[i] = 99
			}
			second, _ := pen.Change(from, to)
			pen.Change(full, api.Pen{Flags: 254, Fore: 3})
			if !slices.Equal(second, kept) {
				t.Errorf("Change(%v, %v) = %v; it was %v", from, to, second, kept)
			}
			for i := range room {
				if room[i] != 99 {
					t.Errorf("Change(%v, %v) writes over what it told", from, to)
				}
			}
		}
	}
}

// TestWhatIsToldIsNumbersOfACommand: no Change is longer than a command may be.
func TestWhatIsToldIsNumbersOfACommand(t *testing.T) {
	most := 0
	for _, from := range somePens() {
		for _, c := range colours() {
			l, _ := pen.Change(from, api.Pen{Flags: 255, Fore: c, Back: c})
			most = max(most, len(l))
		}
	}
	if most != 8+5+5 || most > api.MaxArgs {
		t.Errorf("the longest Change has %d numbers", most)
	}
}
