package pen_test

import (
	"slices"
	"testing"

	"farwriter/api"
	"farwriter/pen"
)

func expectChange(t *testing.T, from, to api.Pen, want []int, err api.Errno) {
	t.Helper()
	if got, e := pen.Change(from, to); !slices.Equal(got, want) || e != err || err != api.OK && got != nil {
		t.Errorf("Change(%v, %v) = %v, %v; want %v, %v", from, to, got, e, want, err)
	}
}

// expectChanged holds Change against the slow reading, and lets Sgr make what it tells.
func expectChanged(t *testing.T, from, to api.Pen) {
	t.Helper()
	want, err := wantChange(from, to)
	expectChange(t, from, to, want, err)
	l, _ := pen.Change(from, to)
	if from == to {
		if len(l) != 0 {
			t.Errorf("Change(%v, the same) = %v", from, l)
		}
		return
	}
	expectSgr(t, from, l, to, api.OK)
}

func TestChangeByHand(t *testing.T) {
	for _, c := range []struct {
		from, to api.Pen
		l        []int
	}{
		{api.Pen{}, api.Pen{}, nil},
		{full, full, nil},
		{api.Pen{}, api.Pen{Flags: 1, Fore: 2}, []int{1, 31}},
		{api.Pen{Flags: 1}, api.Pen{Flags: 129, Back: 9}, []int{9, 100}},
		{api.Pen{Flags: 3, Fore: 4}, api.Pen{Flags: 32, Fore: 4}, []int{0, 7, 33}},
		{full, api.Pen{}, []int{0}},
		{api.Pen{Flags: 1}, api.Pen{}, []int{0}},
		{api.Pen{Fore: 1}, api.Pen{}, []int{0}},
		{api.Pen{Back: 1 << 24}, api.Pen{}, []int{0}},
		{api.Pen{Flags: 8, Fore: 1}, api.Pen{Flags: 8}, []int{0, 4}},
		{api.Pen{Flags: 8, Back: 1}, api.Pen{Flags: 8}, []int{0, 4}},
		{api.Pen{Fore: 1, Back: 2}, api.Pen{Fore: 1}, []int{0, 30}},
		{api.Pen{Fore: 1, Back: 2}, api.Pen{Back: 2}, []int{0, 41}},
		{api.Pen{Fore: 1, Back: 2}, api.Pen{Fore: 2, Back: 1}, []int{31, 40}},
		{api.Pen{Flags: 5}, api.Pen{Flags: 6}, []int{0, 2, 3}},
		{api.Pen{Flags: 4}, api.Pen{Flags: 6}, []int{2}},
		{api.Pen{}, api.Pen{Flags: 255}, []int{1, 2, 3, 4, 5, 7, 8, 9}},
		{api.Pen{}, api.Pen{Fore: 8, Back: 8}, []int{37, 47}},
		{api.Pen{}, api.Pen{Fore: 9, Back: 9}, []int{90, 100}},
		{api.Pen{}, api.Pen{Fore: 16, Back: 16}, []int{97, 107}},
		{api.Pen{}, api.Pen{Fore: 17, Back: 17}, []int{38, 5, 16, 48, 5, 16}},
		{api.Pen{}, api.Pen{Fore: 256, Back: 256}, []int{38, 5, 255, 48, 5, 255}},
		{api.Pen{}, api.Pen{Fore: 1 << 24, Back: 1<<25 - 1}, []int{38, 2, 0, 0, 0, 48, 2, 255, 255, 255}},
		{api.Pen{Flags: 1}, api.Pen{Flags: 254, Fore: 1<<24 + 0x010203, Back: 1<<24 + 0x040506}, []int{0, 2, 3, 4, 5, 7, 8, 9, 38, 2, 1, 2, 3, 48, 2, 4, 5, 6}},
	} {
		expectChange(t, c.from, c.to, c.l, api.OK)
		expectChanged(t, c.from, c.to)
	}
}

func TestChangeEachFlags(t *testing.T) {
	for f := range 256 {
		for g := range 256 {
			expectChanged(t, api.Pen{Flags: f}, api.Pen{Flags: g})
			expectChanged(t, api.Pen{Flags: f, Fore: 7, Back: 1 << 24}, api.Pen{Flags: g, Fore: 7, Back: 20})
		}
	}
}

func TestChangeEachColourOfTheTable(t *testing.T) {
	for c := range 257 {
		for _, from := range []api.Pen{{}, full, {Flags: 3, Fore: 5, Back: 6}} {
			expectChanged(t, from, api.Pen{Flags: from.Flags, Fore: c, Back: from.Back})
			expectChanged(t, from, api.Pen{Flags: from.Flags, Fore: from.Fore, Back: c})
			expectChanged(t, from, api.Pen{Flags: 8, Fore: c, Back: 256 - c})
		}
	}
}

func TestChangeMixedColours(t *testing.T) {
	for i := range 256 {
		for _, shift := range []int{0, 8, 16} {
			c := 1<<24 + i<<shift
			expectChanged(t, api.Pen{}, api.Pen{Fore: c})
			expectChanged(t, full, api.Pen{Flags: 255, Fore: 201, Back: c})
			expectChanged(t, api.Pen{Fore: c, Back: c}, api.Pen{Fore: 1<<25 - 1 - i<<shift, Back: c})
		}
	}
}

func TestChangeAllColours(t *testing.T) {
	for _, a := range colours() {
		for _, b := range colours() {
			for _, c := range colours() {
				for _, d := range colours() {
					expectChanged(t, api.Pen{Fore: a, Back: b}, api.Pen{Fore: c, Back: d})
				}
			}
		}
	}
}

func TestChangeOfSome(t *testing.T) {
	for _, from := range somePens() {
		for _, to := range somePens() {
			expectChanged(t, from, to)
		}
	}
}

func TestChangeWrongPens(t *testing.T) {
	for _, p := range wrongPens() {
		for _, q := range []api.Pen{{}, full, {Flags: 1, Fore: 16}, {Flags: -1}, p} {
			expectChange(t, p, q, nil, api.ErrForm)
			expectChange(t, q, p, nil, api.ErrForm)
		}
	}
}
