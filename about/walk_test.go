package about_test

import (
	"math"
	"slices"
	"testing"

	"farwriter/about"
	"farwriter/api"
)

func expectWalk(t *testing.T, names []string, times int, err api.Errno, want ...string) {
	t.Helper()
	if got, e := about.Walk(names, times); !slices.Equal(got, want) || e != err {
		t.Errorf("Walk(%.200q, %d) = %q, %d; want %q, %d", names, times, got, e, want, err)
	}
}

func TestWalk(t *testing.T) {
	l := []string{"A", "B"}
	expectWalk(t, l, 0, api.OK)
	expectWalk(t, l, 1, api.OK, "A")
	expectWalk(t, l, 2, api.OK, "A", "B")
	expectWalk(t, l, 3, api.OK, "A", "B", "B")
	expectWalk(t, l, 7, api.OK, "A", "B", "B", "A", "B", "B", "A")
	expectWalk(t, []string{"dumb"}, 5, api.OK, "dumb", "dumb", "dumb", "dumb", "dumb")
}

// TestWalkGoesRound: a round is all names and the last one once more.
func TestWalkGoesRound(t *testing.T) {
	for n := 1; n <= 8; n++ {
		round := append(names(n), names(n)[n-1])
		long := slices.Repeat(round, 51)
		for times := range 101 {
			expectWalk(t, names(n), times, api.OK, long[:times]...)
		}
	}
}

func TestWalkIsAnswersInARow(t *testing.T) {
	for _, start := range goodSorts() {
		s := api.Sorts{Names: start.Names}
		var want []string
		for range 100 {
			var text string
			s, text, _ = about.Answer(s, "\x01")
			want = append(want, text[1:])
		}
		expectWalk(t, start.Names, 100, api.OK, want...)
	}
}

func noTimes() []int {
	return []int{math.MinInt, -1 << 32, -100, -1, 101, 102, 256 + 5, 1 << 31, 1<<32 + 5, math.MaxInt}
}

func TestWalkRefusesTimes(t *testing.T) {
	for _, times := range noTimes() {
		expectWalk(t, []string{"A", "B"}, times, api.ErrArg)
	}
}

// TestWalkRefusesBadNames also where times is wrong: what Check says is told first.
func TestWalkRefusesBadNames(t *testing.T) {
	for _, r := range append(badNames(), badCounts()...) {
		for _, times := range append(noTimes(), 0, 1, 100) {
			expectWalk(t, r.sorts.Names, times, r.err)
		}
	}
}
