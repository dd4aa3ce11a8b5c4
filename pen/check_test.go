package pen_test

import (
	"testing"

	"farwriter/api"
	"farwriter/pen"
)

func expectCheck(t *testing.T, p api.Pen, want api.Errno) {
	t.Helper()
	if got := pen.Check(p); got != want {
		t.Errorf("Check(%v) = %v; want %v", p, got, want)
	}
}

func TestCheckEachFlags(t *testing.T) {
	for f := range 256 {
		expectCheck(t, api.Pen{Flags: f}, api.OK)
		expectCheck(t, api.Pen{Flags: f, Fore: f + 1, Back: 1<<24 + f}, api.OK)
	}
	for f := 256; f < 70000; f++ {
		expectCheck(t, api.Pen{Flags: f}, api.ErrForm)
		expectCheck(t, api.Pen{Flags: -f}, api.ErrForm)
	}
}

func TestCheckEachColour(t *testing.T) {
	for c := -1000; c < 70000; c++ {
		want := api.ErrForm
		if 0 <= c && c <= 256 {
			want = api.OK
		}
		expectCheck(t, api.Pen{Fore: c}, want)
		expectCheck(t, api.Pen{Back: c}, want)
	}
	for _, c := range colours() {
		expectCheck(t, api.Pen{Fore: c}, api.OK)
		expectCheck(t, api.Pen{Back: c}, api.OK)
		for _, other := range colours() {
			expectCheck(t, api.Pen{Flags: 255, Fore: c, Back: other}, api.OK)
		}
	}
}

// TestCheckMixedColours: a step that comes to each red, green and blue, and beyond both ends.
func TestCheckMixedColours(t *testing.T) {
	for c := 1<<24 - 2000; c < 1<<25+2000; c += 251 {
		want := api.ErrForm
		if 1<<24 <= c && c < 1<<25 {
			want = api.OK
		}
		expectCheck(t, api.Pen{Fore: c}, want)
		expectCheck(t, api.Pen{Back: c}, want)
	}
}

func TestCheckWrongPens(t *testing.T) {
	for _, p := range wrongPens() {
		expectCheck(t, p, api.ErrForm)
	}
	for _, p := range somePens() {
		expectCheck(t, p, api.OK)
	}
}
