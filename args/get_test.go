package args_test

import (
	"math"
	"testing"

	"farwriter/args"
)

func expectGet(t *testing.T, l []int, i, none, want int) {
	t.Helper()
	if got := args.Get(l, i, none); got != want {
		t.Errorf("Get(%v, %d, %d) = %d; want %d", l, i, none, got, want)
	}
}

func TestGet(t *testing.T) {
	l := []int{5, -1, 0, 16383}
	for i, want := range []int{5, 9, 0, 16383, 9, 9} {
		expectGet(t, l, i, 9, want)
	}
	expectGet(t, l, 1, -1, -1)
	expectGet(t, l, 1, 0, 0)
	expectGet(t, l, 4, -1, -1)
	expectGet(t, l, 2, 1, 0)
}

// TestGetAnyNumber: all but -1 are told as they are, also those that no command has.
func TestGetAnyNumber(t *testing.T) {
	for _, none := range []int{-1, 0, 1, 9, -77, math.MaxInt, math.MinInt} {
		for _, number := range append(noNumbers(), 0, 1, 2, 255, 16382, 16383) {
			expectGet(t, []int{number}, 0, none, number)
			expectGet(t, []int{-1, number, -1}, 1, none, number)
			expectGet(t, []int{number, -1, number}, 1, none, none)
		}
	}
}

// TestGetAnyPlace: also behind as many numbers as a command has.
func TestGetAnyPlace(t *testing.T) {
	for _, n := range []int{0, 1, 2, 31, 32, 33, 34, 100, 1000} {
		l := make([]int, n, n+5)
		for i := range l {
			l[i] = i * 3
		}
		for i := range l {
			expectGet(t, l, i, -5, i*3)
		}
		for _, i := range []int{-1, -2, -n, -n - 1, -256, -65536, math.MinInt, math.MinInt + 1, math.MinInt32, n, n + 1, n + 4, n + 5, n + 256, n + 65536, 1 << 32, 1 << 62, math.MaxInt} {
			if i < 0 || i >= n {
				expectGet(t, l, i, -5, -5)
			}
		}
	}
	for _, i := range []int{math.MinInt, -1, 0, 1, math.MaxInt} {
		expectGet(t, nil, i, 9, 9)
		expectGet(t, []int{}, i, 9, 9)
		expectGet(t, []int{4, 5, 6}[:0], i, 9, 9)
	}
}

// TestGetOfWhatIsRead: a number that isn't given is none, a nought is one.
func TestGetOfWhatIsRead(t *testing.T) {
	l, _ := args.Read("0;;99999")
	for i, want := range []int{0, 1, 16383, 1} {
		expectGet(t, l, i, 1, want)
	}
	l, _ = args.Read("")
	expectGet(t, l, 0, 1, 1)
	l, _ = args.Read("x")
	expectGet(t, l, 0, 1, 1)
}
