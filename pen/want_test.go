package pen_test

import (
	"math"
	"slices"

	"farwriter/api"
)

// What the words of the chapter say, read slowly: each number of a command with what it does, by name.

type deed func(api.Pen) api.Pen

var flagNumbers = map[int]int{1: 1, 2: 2, 3: 4, 4: 8, 5: 16, 7: 32, 8: 64, 9: 128}

var flagTaken = map[int][]int{22: {1, 2}, 23: {4}, 24: {8}, 25: {16}, 27: {32}, 28: {64}, 29: {128}}

func deeds() map[int]deed {
	all := map[int]deed{0: func(api.Pen) api.Pen { return api.Pen{} }}
	all[-1] = all[0]
	for number, flag := range flagNumbers {
		all[number] = func(p api.Pen) api.Pen { p.Flags |= flag; return p }
	}
	for number, taken := range flagTaken {
		all[number] = func(p api.Pen) api.Pen {
			for _, flag := range taken {
				if p.Flags/flag%2 == 1 {
					p.Flags -= flag
				}
			}
			return p
		}
	}
	for i := range 8 {
		all[30+i] = func(p api.Pen) api.Pen { p.Fore = 1 + i; return p }
		all[90+i] = func(p api.Pen) api.Pen { p.Fore = 9 + i; return p }
		all[40+i] = func(p api.Pen) api.Pen { p.Back = 1 + i; return p }
		all[100+i] = func(p api.Pen) api.Pen { p.Back = 9 + i; return p }
	}
	all[39] = func(p api.Pen) api.Pen { p.Fore = 0; return p }
	all[49] = func(p api.Pen) api.Pen { p.Back = 0; return p }
	return all
}

var allDeeds = deeds()

func wantCheck(p api.Pen) api.Errno {
	colours := 0
	for _, c := range []int{p.Fore, p.Back} {
		if c >= 0 && c <= 256 || c >= 16777216 && c <= 33554431 {
			colours++
		}
	}
	if p.Flags >= 0 && p.Flags <= 255 && colours == 2 {
		return api.OK
	}
	return api.ErrForm
}

func wantSgr(p api.Pen, numbers []int) (api.Pen, api.Errno) {
	if wantCheck(p) != api.OK {
		return p, api.ErrForm
	}
	if len(numbers) == 0 || slices.Min(numbers) < -1 || slices.Max(numbers) > 16383 {
		return p, api.ErrArg
	}
	if len(numbers) > 32 {
		return p, api.ErrLarge
	}
	for i := 0; i < len(numbers); i++ {
		number := numbers[i]
		if number != 38 && number != 48 {
			if do, is := allDeeds[number]; is {
				p = do(p)
			}
			continue
		}
		colour, used := wantChosen(numbers[i+1:])
		if used == 0 {
			return p, api.OK
		}
		if number == 38 {
			p.Fore = colour
		} else {
			p.Back = colour
		}
		i += used
	}
	return p, api.OK
}

// wantChosen tells the colour that stands behind a 38 or a 48, and how many numbers it is; 0, if there is none.
func wantChosen(behind []int) (colour, used int) {
	var l []int
	for _, number := range behind {
		if number == -1 {
			number = 0
		}
		l = append(l, number)
	}
	if len(l) > 1 && l[0] == 5 && l[1] < 256 {
		return l[1] + 1, 2
	}
	if len(l) > 3 && l[0] == 2 && l[1] < 256 && l[2] < 256 && l[3] < 256 {
		return 16777216 + l[1]*65536 + l[2]*256 + l[3], 4
	}
	return 0, 0
}

func wantChange(from, to api.Pen) ([]int, api.Errno) {
	if wantCheck(from) != api.OK || wantCheck(to) != api.OK {
		return nil, api.ErrForm
	}
	var l []int
	if from == to {
		return l, api.OK
	}
	anew := from.Fore != 0 && to.Fore == 0 || from.Back != 0 && to.Back == 0
	for bit := 1; bit < 256; bit *= 2 {
		if from.Flags/bit%2 == 1 && to.Flags/bit%2 == 0 {
			anew = true
		}
	}
	if anew {
		l, from = []int{0}, api.Pen{}
	}
	for number := 1; number < 10; number++ {
		if flag := flagNumbers[number]; flag > 0 && to.Flags/flag%2 == 1 && from.Flags/flag%2 == 0 {
			l = append(l, number)
		}
	}
	if to.Fore != from.Fore {
		l = append(l, wantColour(to.Fore, 30, 90, 38)...)
	}
	if to.Back != from.Back {
		l = append(l, wantColour(to.Back, 40, 100, 48)...)
	}
	return l, api.OK
}

func wantColour(c, plain, bright, chosen int) []int {
	if c <= 8 {
		return []int{plain + c - 1}
	}
	if c <= 16 {
		return []int{bright + c - 9}
	}
	if c <= 256 {
		return []int{chosen, 5, c - 1}
	}
	c -= 16777216
	return []int{chosen, 2, c / 65536, c / 256 % 256, c % 256}
}

// colours that are so: the first and the last one of each sort, and some between.
func colours() []int {
	return []int{0, 1, 2, 5, 8, 9, 12, 16, 17, 18, 100, 255, 256, 1 << 24, 1<<24 + 1, 1<<24 + 255, 1<<24 + 256, 1<<24 + 0xff00, 1<<24 + 0x10000, 1<<24 + 0x123456, 1<<24 + 0xff0000, 1<<25 - 256, 1<<25 - 1}
}

// noColours are not, among them some whose low bits are those of a colour.
func noColours() []int {
	return []int{-1, -2, -8, -256, -257, -65536, -1 << 24, -1<<24 - 1, -1<<25 + 1, -1 << 32, -1<<32 + 5, math.MinInt32, math.MinInt, math.MinInt + 1, math.MinInt + 5, 257, 258, 300, 511, 512, 65535, 65536, 65536 + 5, 1<<16 + 256, 1<<24 - 256, 1<<24 - 1, 1 << 25, 1<<25 + 1, 1<<25 + 5, 1<<25 + 1<<24, 1 << 26, math.MaxInt32, 1 << 32, 1<<32 + 1, 1<<32 + 5, 1<<32 + 1<<24, 1<<40 + 1<<24 + 7, 1 << 62, math.MaxInt - 1, math.MaxInt}
}

func noFlags() []int {
	return []int{-1, -2, -128, -255, -256, -65536, -1 << 32, -1<<32 + 1, math.MinInt32, math.MinInt, math.MinInt + 1, 256, 257, 511, 512, 1024, 65536, 65536 + 1, 1 << 24, 1<<24 + 1, math.MaxInt32, 1 << 32, 1<<32 + 1, 1<<32 + 255, 1 << 62, math.MaxInt}
}

// wrongPens are wrong in one field each, and in several.
func wrongPens() []api.Pen {
	var l []api.Pen
	for _, f := range noFlags() {
		l = append(l, api.Pen{Flags: f}, api.Pen{Flags: f, Fore: 1, Back: 1<<25 - 1}, api.Pen{Flags: f, Fore: f, Back: f})
	}
	for _, c := range noColours() {
		l = append(l, api.Pen{Fore: c}, api.Pen{Back: c}, api.Pen{Flags: 255, Fore: c, Back: 8}, api.Pen{Flags: 1, Fore: 8, Back: c}, api.Pen{Fore: c, Back: c})
	}
	return l
}

// somePens are so.
func somePens() []api.Pen {
	var l []api.Pen
	for i, c := range colours() {
		l = append(l, api.Pen{Flags: i * 11, Fore: c, Back: colours()[i*7%len(colours())]})
	}
	return append(l, api.Pen{}, api.Pen{Flags: 255}, api.Pen{Flags: 255, Fore: 256, Back: 1<<25 - 1}, api.Pen{Flags: 1}, api.Pen{Flags: 2}, api.Pen{Fore: 7}, api.Pen{Back: 7}, api.Pen{Flags: 170, Fore: 3, Back: 3})
}

// noNumbers are those that no command has.
func noNumbers() []int {
	return []int{-2, -3, -38, -256, -16383, -65536, -1 << 32, -1<<32 + 1, math.MinInt32, math.MinInt, math.MinInt + 1, 16384, 16385, 32767, 65535, 65536, 65536 + 1, 65536 + 38, math.MaxInt32, 1 << 32, 1<<32 + 1, 1<<32 + 38, 1 << 62, math.MaxInt}
}

func repeated(number, n int) []int {
	return slices.Repeat([]int{number}, n)
}
