package args_test

import (
	"math"
	"slices"
	"strconv"
	"strings"
	"testing"

	"farwriter/api"
	"farwriter/args"
)

func expectWrite(t *testing.T, l []int, want string, err api.Errno) {
	t.Helper()
	if s, e := args.Write(l); s != want || e != err {
		t.Errorf("Write(%v of %d) = %q, %d; want %q, %d", l, len(l), s, e, want, err)
	}
}

// noNumbers has ints out of the bounds of a number, also such whose low bits are a right one's.
func noNumbers() []int {
	l := []int{-2, -3, -10, -16383, -16384, -65536, -65535, 16384, 16385, 20000, 65535, 65536, 65536 + 5, 1 << 20, math.MaxInt32, math.MinInt32, math.MaxInt, math.MinInt}
	for _, high := range []int{1 << 14, 1 << 15, 1 << 16, 1 << 31, 1 << 32, 1 << 62, math.MinInt} {
		l = append(l, high, high+5, high+16383, high^-1)
	}
	return l
}

// numbered has n numbers, each other than the others.
func numbered(n int) []int {
	var l []int
	for i := range n {
		l = append(l, i*509)
	}
	return l
}

func TestWrite(t *testing.T) {
	for _, c := range []struct {
		l    []int
		want string
	}{
		{[]int{-1}, ""},
		{[]int{0}, "0"},
		{[]int{7}, "7"},
		{[]int{16383}, "16383"},
		{[]int{7, -1}, "7;"},
		{[]int{-1, 7}, ";7"},
		{[]int{-1, -1}, ";"},
		{[]int{-1, -1, -1}, ";;"},
		{[]int{-1, 0, 12}, ";0;12"},
		{[]int{0, 0, 10, 200, 3000, 10000}, "0;0;10;200;3000;10000"},
		{[]int{1, -1, 2, -1}, "1;;2;"},
	} {
		expectWrite(t, c.l, c.want, api.OK)
	}
}

// TestWriteEachNumber, which Read reads.
func TestWriteEachNumber(t *testing.T) {
	for n := range 16384 {
		s := strconv.Itoa(n)
		expectWrite(t, []int{n}, s, api.OK)
		expectWrite(t, []int{n, -1, n, 3, n}, s+";;"+s+";3;"+s, api.OK)
		expectRead(t, s, []int{n}, api.OK)
	}
}

// TestWriteIsRead: lists of each count that there may be.
func TestWriteIsRead(t *testing.T) {
	for n := 1; n <= 32; n++ {
		lists := [][]int{numbered(n), repeated(-1, n), repeated(0, n), repeated(16383, n)}
		for at := range n {
			l := numbered(n)
			l[at] = -1
			lists = append(lists, l)
			l = repeated(-1, n)
			l[at] = at
			lists = append(lists, l)
		}
		for _, l := range lists {
			s := ""
			for i, number := range l {
				if i > 0 {
					s += ";"
				}
				if number != -1 {
					s += strconv.Itoa(number)
				}
			}
			expectWrite(t, l, s, api.OK)
			expectRead(t, s, l, api.OK)
		}
	}
	expectWrite(t, repeated(16383, 32), strings.Repeat("16383;", 31)+"16383", api.OK)
	expectWrite(t, repeated(-1, 32), strings.Repeat(";", 31), api.OK)
}

func TestWriteRefusesNone(t *testing.T) {
	expectWrite(t, nil, "", api.ErrArg)
	expectWrite(t, []int{}, "", api.ErrArg)
	expectWrite(t, numbered(5)[:0], "", api.ErrArg)
}

// TestWriteRefusesNoNumbers wherever they stand, also among more numbers than there may be: that is told first.
func TestWriteRefusesNoNumbers(t *testing.T) {
	for _, bad := range noNumbers() {
		for _, n := range []int{1, 2, 5, 31, 32, 33, 34, 100} {
			for at := range n {
				l := repeated(16383, n)
				l[at] = bad
				expectWrite(t, l, "", api.ErrArg)
			}
		}
		expectWrite(t, repeated(bad, 32), "", api.ErrArg)
		expectWrite(t, repeated(bad, 100000), "", api.ErrArg)
		expectWrite(t, append(make([]int, 100000), bad), "", api.ErrArg)
	}
}

func TestWriteRefusesMany(t *testing.T) {
	for _, n := range []int{33, 34, 40, 64, 255, 256, 256 + 1, 256 + 32, 65536 + 1, 1 << 20} {
		for _, number := range []int{-1, 0, 7, 16383} {
			expectWrite(t, repeated(number, n), "", api.ErrLarge)
			expectWrite(t, slices.Concat(numbered(33), repeated(number, n-33)), "", api.ErrLarge)
		}
	}
}
