package pen_test

import (
	"slices"
	"testing"

	"farwriter/api"
	"farwriter/pen"
)

func expectSgr(t *testing.T, p api.Pen, numbers []int, want api.Pen, err api.Errno) {
	t.Helper()
	if got, e := pen.Sgr(p, numbers); got != want || e != err {
		t.Errorf("Sgr(%v, %v) = %v, %v; want %v, %v", p, numbers, got, e, want, err)
	}
}

// expectAsRead holds Sgr against the slow reading of the words.
func expectAsRead(t *testing.T, p api.Pen, numbers []int) {
	t.Helper()
	want, err := wantSgr(p, numbers)
	expectSgr(t, p, numbers, want, err)
}

var full = api.Pen{Flags: 255, Fore: 201, Back: 1<<24 + 0x010203}

func TestSgrByHand(t *testing.T) {
	for _, c := range []struct {
		from    api.Pen
		numbers []int
		to      api.Pen
	}{
		{api.Pen{}, []int{1, 31}, api.Pen{Flags: 1, Fore: 2}},
		{full, []int{0}, api.Pen{}},
		{full, []int{-1}, api.Pen{}},
		{full, []int{0, 4}, api.Pen{Flags: 8}},
		{full, []int{4, 0}, api.Pen{}},
		{full, []int{4, -1, 1}, api.Pen{Flags: 1}},
		{api.Pen{}, []int{1, 2, 3, 4, 5, 7, 8, 9}, api.Pen{Flags: 255}},
		{api.Pen{}, []int{1, 1, 1}, api.Pen{Flags: 1}},
		{api.Pen{}, []int{6}, api.Pen{}},
		{api.Pen{Flags: 255}, []int{22, 23, 24, 25, 27, 28, 29}, api.Pen{}},
		{api.Pen{Flags: 255}, []int{22}, api.Pen{Flags: 252}},
		{api.Pen{Flags: 1}, []int{22}, api.Pen{}},
		{api.Pen{Flags: 2}, []int{22}, api.Pen{}},
		{api.Pen{Flags: 4}, []int{22}, api.Pen{Flags: 4}},
		{api.Pen{Flags: 255}, []int{20, 21, 26}, api.Pen{Flags: 255}},
		{api.Pen{}, []int{30, 40}, api.Pen{Fore: 1, Back: 1}},
		{api.Pen{}, []int{37, 47}, api.Pen{Fore: 8, Back: 8}},
		{api.Pen{}, []int{90, 100}, api.Pen{Fore: 9, Back: 9}},
		{api.Pen{}, []int{97, 107}, api.Pen{Fore: 16, Back: 16}},
		{full, []int{39}, api.Pen{Flags: 255, Back: full.Back}},
		{full, []int{49}, api.Pen{Flags: 255, Fore: full.Fore}},
		{full, []int{50, 89, 98, 99, 108, 16383}, full},
		{api.Pen{}, []int{31, 32}, api.Pen{Fore: 3}},
	} {
		expectSgr(t, c.from, c.numbers, c.to, api.OK)
		expectAsRead(t, c.from, c.numbers)
	}
}

func TestSgrChosenColoursByHand(t *testing.T) {
	for _, c := range []struct {
		from    api.Pen
		numbers []int
		to      api.Pen
	}{
		{api.Pen{}, []int{38, 5, 0}, api.Pen{Fore: 1}},
		{api.Pen{}, []int{38, 5, -1}, api.Pen{Fore: 1}},
		{api.Pen{}, []int{48, 5, 255}, api.Pen{Back: 256}},
		{api.Pen{}, []int{38, 5, 38, 1}, api.Pen{Flags: 1, Fore: 39}},
		{api.Pen{}, []int{38, 2, 0, 0, 0}, api.Pen{Fore: 1 << 24}},
		{api.Pen{}, []int{38, 2, -1, -1, -1}, api.Pen{Fore: 1 << 24}},
		{api.Pen{}, []int{48, 2, 255, 255, 255}, api.Pen{Back: 1<<25 - 1}},
		{api.Pen{}, []int{48, 2, 1, 2, 3, 4}, api.Pen{Flags: 8, Back: 1<<24 + 65536 + 512 + 3}},
		{api.Pen{}, []int{38, 5, 1, 48, 5, 2}, api.Pen{Fore: 2, Back: 3}},
		{full, []int{38}, full},
		{full, []int{38, 5}, full},
		{full, []int{38, 2}, full},
		{full, []int{38, 2, 1}, full},
		{full, []int{38, 2, 1, 2}, full},
		{full, []int{48, 2, 1, 2}, full},
		{full, []int{38, 1, 0}, full},
		{full, []int{38, -1, 0}, full},
		{full, []int{38, 0, 5}, full},
		{full, []int{38, 38, 5, 1}, full},
		{full, []int{38, 48, 5, 1}, full},
		{full, []int{38, 5, 256, 0}, full},
		{full, []int{48, 5, 256, 0}, full},
		{full, []int{38, 2, 256, 0, 0, 0}, full},
		{full, []int{38, 2, 0, 256, 0, 0}, full},
		{full, []int{38, 2, 0, 0, 256, 0}, full},
		{full, []int{38, 2, 0, 0, 0, 256}, api.Pen{Flags: 255, Fore: 1 << 24, Back: full.Back}},
		{api.Pen{}, []int{1, 38, 5, 256, 4}, api.Pen{Flags: 1}},
		{api.Pen{}, []int{31, 38, 7, 4}, api.Pen{Fore: 2}},
		{api.Pen{}, []int{38, 5, 3, 38}, api.Pen{Fore: 4}},
		{api.Pen{}, []int{38, 5, 3, 38, 5, 300, 41}, api.Pen{Fore: 4}},
	} {
		expectSgr(t, c.from, c.numbers, c.to, api.OK)
		expectAsRead(t, c.from, c.numbers)
	}
}

// TestSgrEachNumber, by itself and between others.
func TestSgrEachNumber(t *testing.T) {
	for number := -1; number <= 16383; number++ {
		for _, p := range []api.Pen{{}, full, {Flags: 170, Fore: 3}, {Flags: 85, Back: 300 - 44}} {
			expectAsRead(t, p, []int{number})
			expectAsRead(t, p, []int{3, number, 4})
		}
	}
}

// TestSgrEachFlags: what is put in and taken out is no matter of what else is there.
func TestSgrEachFlags(t *testing.T) {
	for f := range 256 {
		for number := -1; number < 120; number++ {
			expectAsRead(t, api.Pen{Flags: f, Fore: f + 1, Back: 1<<24 + f}, []int{number})
		}
	}
}

// TestSgrEachBehindChosen: each number stands at each place behind a 38 and a 48.
func TestSgrEachBehindChosen(t *testing.T) {
	for _, number := range []int{38, 48} {
		for n := -1; n <= 16383; n++ {
			for _, l := range [][]int{
				{number, n}, {number, n, 7, 1, 2, 3}, {number, 5, n}, {number, 5, n, 1}, {1, number, 5, n, 4},
				{number, 2, n, 7, 9, 1}, {number, 2, 7, n, 9, 1}, {number, 2, 7, 9, n}, {number, 2, 7, 9, n, 31}, {number, 2, n, n, n, 42},
			} {
				expectAsRead(t, full, l)
			}
		}
	}
}

// TestSgrManyLists goes through all lists of up to five of some numbers.
func TestSgrManyLists(t *testing.T) {
	words := []int{-1, 0, 2, 5, 22, 33, 38, 48, 104, 255, 256}
	var walk func(l []int)
	walk = func(l []int) {
		if len(l) > 0 {
			expectAsRead(t, full, l)
			expectAsRead(t, api.Pen{Flags: 1, Fore: 9}, l)
		}
		if len(l) < 5 {
			for _, word := range words {
				walk(append(slices.Clone(l), word))
			}
		}
	}
	walk(nil)
}

// TestSgrInPieces: where no colour is cut, one list is as good as several.
func TestSgrInPieces(t *testing.T) {
	pieces := [][]int{{1}, {38, 5, 7}, {-1}, {48, 2, 1, 2, 3}, {22}, {4, 9}, {39, 95}, {38, 2, 255, 0, 5}, {48, 5, 38}}
	for _, p := range somePens() {
		for i := range pieces {
			var whole []int
			one := p
			for _, piece := range pieces[i:] {
				whole = append(whole, piece...)
				one, _ = pen.Sgr(one, piece)
				expectSgr(t, p, whole, one, api.OK)
			}
		}
	}
}

// TestSgrWrongPen: the pen is told as it was, whatever the numbers are.
func TestSgrWrongPen(t *testing.T) {
	for _, p := range wrongPens() {
		for _, l := range [][]int{nil, {}, {0}, {1, 31}, {39, 49}, {-2}, {16384}, repeated(0, 33), repeated(-2, 33)} {
			expectSgr(t, p, l, p, api.ErrForm)
		}
	}
}

func TestSgrNoNumbers(t *testing.T) {
	for _, p := range somePens() {
		expectSgr(t, p, nil, p, api.ErrArg)
		expectSgr(t, p, []int{}, p, api.ErrArg)
		expectSgr(t, p, []int{1, 2, 3}[:0], p, api.ErrArg)
	}
}

// TestSgrWrongNumbers: at each place, also behind a 38 that does nothing, and in lists that are too long.
func TestSgrWrongNumbers(t *testing.T) {
	for _, number := range noNumbers() {
		for _, n := range []int{1, 2, 3, 31, 32, 33, 34, 100} {
			for place := range n {
				l := repeated(1, n)
				l[place] = number
				expectSgr(t, full, l, full, api.ErrArg)
				expectSgr(t, api.Pen{}, l, api.Pen{}, api.ErrArg)
			}
		}
		for _, l := range [][]int{{38, number}, {38, 9, number}, {38, 5, number}, {48, 5, 300, 1, number}, {38, 2, number, 1, 1}, {38, 2, 1, number, 1}, {38, 2, 1, 1, number}} {
			expectSgr(t, api.Pen{}, l, api.Pen{}, api.ErrArg)
		}
	}
}

func TestSgrLongLists(t *testing.T) {
	for n := 1; n <= 32; n++ {
		l := repeated(6, n)
		l[n-1] = 4
		expectSgr(t, api.Pen{Flags: 1}, l, api.Pen{Flags: 9}, api.OK)
	}
	for _, n := range []int{33, 34, 35, 64, 65, 288, 65536, 65537} {
		for _, number := range []int{-1, 0, 1, 38, 16383} {
			expectSgr(t, full, repeated(number, n), full, api.ErrLarge)
		}
	}
	l := append(repeated(1, 27), 38, 2, 1, 2, 3)
	expectSgr(t, api.Pen{}, l, api.Pen{Flags: 1, Fore: 1<<24 + 0x010203}, api.OK)
	expectSgr(t, full, append(l, 4), full, api.ErrLarge)
}
