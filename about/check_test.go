package about_test

import (
	"math"
	"slices"
	"strconv"
	"strings"
	"testing"

	"farwriter/about"
	"farwriter/api"
)

// names has n names, each other than the others.
func names(n int) []string {
	l := make([]string, n)
	for i := range l {
		l[i] = "vt" + strconv.Itoa(100+i)
	}
	return l
}

func expectCheck(t *testing.T, s api.Sorts, want api.Errno) {
	t.Helper()
	if e := about.Check(s); e != want {
		t.Errorf("Check(%.200q, At %d) = %d; want %d", s.Names, s.At, e, want)
	}
}

// goodSorts has each number of names with each At, and names at their bounds.
func goodSorts() []api.Sorts {
	var l []api.Sorts
	for n := 1; n <= 8; n++ {
		for at := 0; at <= n; at++ {
			l = append(l, api.Sorts{Names: names(n), At: at})
		}
	}
	for b := 33; b <= 126; b++ {
		l = append(l, api.Sorts{Names: []string{string(rune(b)), "vt100-" + string(rune(b))}})
	}
	for n := 1; n <= 40; n++ {
		l = append(l, api.Sorts{Names: []string{strings.Repeat("~", n), strings.Repeat("!", n)}})
	}
	return append(l, api.Sorts{Names: []string{"xterm", "XTERM", "xter", "xtermm", "term"}, At: 5})
}

// refused is Sorts that Check refuses.
type refused struct {
	sorts api.Sorts
	err   api.Errno
}

// noName has texts that can't be a name.
func noName() []string {
	l := []string{"", strings.Repeat("x", 41), strings.Repeat("x", 256+5), strings.Repeat("x", 100000), "a b", "vt\xc3\xa9", "\xff\xf0"}
	for b := range 256 {
		if b < 33 || b > 126 {
			s := string([]byte{byte(b)})
			l = append(l, s, s+"vt", "v"+s+"t", "vt"+s, strings.Repeat("x", 39)+s)
		}
	}
	return l
}

// badNames has a wrong name, and two that are the same, at each place of the list.
func badNames() []refused {
	var l []refused
	for _, bad := range noName() {
		for _, at := range []int{0, 3, 7} {
			list := names(8)
			list[at] = bad
			l = append(l, refused{api.Sorts{Names: list, At: at}, api.ErrForm})
		}
		l = append(l, refused{api.Sorts{Names: []string{bad}}, api.ErrForm})
	}
	for n := 2; n <= 8; n++ {
		for i := range n {
			for k := range i {
				list := names(n)
				list[i] = list[k]
				l = append(l, refused{api.Sorts{Names: list, At: 1}, api.ErrForm})
			}
		}
	}
	return l
}

// badCounts has too few and too many names; also where names or At are wrong too, the count is told.
func badCounts() []refused {
	l := []refused{
		{api.Sorts{}, api.ErrArg},
		{api.Sorts{Names: []string{}}, api.ErrArg},
		{api.Sorts{At: 1}, api.ErrArg},
		{api.Sorts{At: -1}, api.ErrArg},
		{api.Sorts{Names: make([]string, 9)}, api.ErrArg},
		{api.Sorts{Names: slices.Repeat([]string{"same"}, 9)}, api.ErrArg},
		{api.Sorts{Names: append(names(8), "a b"), At: 10}, api.ErrArg},
	}
	for _, n := range []int{9, 10, 16, 256 + 1, 1000} {
		l = append(l, refused{api.Sorts{Names: names(n)}, api.ErrArg}, refused{api.Sorts{Names: names(n), At: 8}, api.ErrArg})
	}
	return l
}

// badAts has At out of its bounds; where a name is wrong too, the name is told.
func badAts() []refused {
	var l []refused
	for n := 1; n <= 8; n++ {
		for _, at := range []int{math.MinInt, -1 << 32, -1, n + 1, n + 2, 256 + n, 1<<32 + 1, math.MaxInt} {
			wrong, twice := names(n), append(names(n)[:n-1], "x", "x")
			wrong[n-1] = "a b"
			l = append(l, refused{api.Sorts{Names: names(n), At: at}, api.ErrArg}, refused{api.Sorts{Names: wrong, At: at}, api.ErrForm})
			if len(twice) <= 8 {
				l = append(l, refused{api.Sorts{Names: twice, At: at}, api.ErrForm})
			}
		}
	}
	return l
}

func badSorts() []refused { return slices.Concat(badNames(), badCounts(), badAts()) }

func TestCheckTakesGoodSorts(t *testing.T) {
	for _, s := range goodSorts() {
		expectCheck(t, s, api.OK)
	}
}

func TestCheckRefusesBadSorts(t *testing.T) {
	for _, r := range badSorts() {
		expectCheck(t, r.sorts, r.err)
	}
}
