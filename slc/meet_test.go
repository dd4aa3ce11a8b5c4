package slc_test

import (
	"testing"

	"farwriter/api"
	"farwriter/slc"
)

func expectMeet(t *testing.T, a, b, wantA, wantB api.Keys, times int, err api.Errno) {
	t.Helper()
	if x, y, n, e := slc.Meet(a, b); x != wantA || y != wantB || n != times || e != err {
		t.Fatalf("Meet(%v, %v) = %v, %v, %d, %d; want %v, %v, %d, %d", a, b, x, y, n, e, wantA, wantB, times, err)
	}
}

// met is what both ends hold of one function, ahead and behind.
type met struct {
	aLevel, aChar, bLevel, bChar byte
	level, char                  byte
	times                        int
}

func meetings() []met {
	return []met{
		{api.LNone, 0, api.LNone, 0, api.LNone, 0, 1},
		{api.LFixed, 8, api.LFixed, 8, api.LFixed, 8, 1},
		{api.LValue, 8, api.LValue, 8, api.LValue, 8, 1},
		{api.LNone, 5, api.LNone, 6, api.LNone, 5, 2},
		{api.LNone, 0, api.LFixed, 8, api.LNone, 0, 2},
		{api.LNone, 8, api.LValue, 8, api.LNone, 8, 2},
		{api.LValue, 8, api.LNone, 0, api.LValue, 8, 2},
		{api.LValue, 8, api.LValue, 127, api.LValue, 8, 2},
		{api.LFixed, 8, api.LNone, 0, api.LFixed, 8, 2},
		{api.LFixed, 8, api.LValue, 127, api.LFixed, 8, 2},
		{api.LFixed, 8, api.LFixed, 127, api.LNone, 0, 3},
		{api.LValue, 8, api.LFixed, 127, api.LFixed, 127, 3},
		{api.LValue, 8, api.LFixed, 8, api.LFixed, 8, 3},
	}
}

func TestMeetByHand(t *testing.T) {
	for f := 1; f <= 18; f++ {
		for _, c := range meetings() {
			both := with(mixed(), f, c.level, c.char)
			expectMeet(t, with(mixed(), f, c.aLevel, c.aChar), with(mixed(), f, c.bLevel, c.bChar), both, both, c.times, api.OK)
		}
	}
}

// TestMeetOfAllAtOnce: each function comes out as it does alone, and it is said as often as for the one that asks most.
func TestMeetOfAllAtOnce(t *testing.T) {
	l := meetings()
	for turn := range l {
		var a, b, want api.Keys
		times := 1
		for f := 1; f <= 18; f++ {
			c := l[(f*5+turn)%len(l)]
			a, b, want = with(a, f, c.aLevel, c.aChar), with(b, f, c.bLevel, c.bChar), with(want, f, c.level, c.char)
			times = max(times, c.times)
		}
		expectMeet(t, a, b, want, want, times, api.OK)
	}
}

// wantMet has both ends speak by P10.3's words, each triple by P10.2's.
func wantMet(a, b api.Keys) (api.Keys, api.Keys, int) {
	var said []byte
	for f := 1; f <= 18; f++ {
		said = append(said, byte(f), a.Levels[f], a.Chars[f])
	}
	times := 0
	for hears, other := &b, &a; len(said) > 0 && times < 10; hears, other = other, hears {
		times++
		var answer []byte
		for i := 0; i < len(said); i += 3 {
			keys, s := wantHeard(*hears, int(said[i]), int(said[i+1]), int(said[i+2]))
			*hears = keys
			answer = append(answer, s...)
		}
		said = answer
	}
	return a, b, times
}

// TestMeetAgrees: whatever both hold, they hold the same behind three sayings at most.
func TestMeetAgrees(t *testing.T) {
	chars := []byte{0, 1, 8, 127, 128, 255}
	for i := range 9 {
		for _, f := range []int{1, 10, 18} {
			for _, ac := range chars {
				for _, bc := range chars {
					a, b := with(mixed(), f, byte(i/3), ac), with(mixed(), f, byte(i%3), bc)
					x, y, times := wantMet(a, b)
					if x != y || times > 3 {
						t.Fatalf("%v and %v come to %v and %v, %d", a, b, x, y, times)
					}
					expectMeet(t, a, b, x, y, times, api.OK)
				}
			}
		}
	}
}

// TestMeetAgain: who has met has nothing more to say than All.
func TestMeetAgain(t *testing.T) {
	x, y, n, e := slc.Meet(mixed(), with(api.Keys{}, 10, api.LFixed, 127))
	if x != y || n != 3 || e != api.OK {
		t.Fatalf("%v, %v, %d, %d", x, y, n, e)
	}
	expectMeet(t, x, y, x, y, 1, api.OK)
	expectMeet(t, y, x, x, y, 1, api.OK)
}

func TestMeetRefusesKeys(t *testing.T) {
	for _, k := range noKeys() {
		expectMeet(t, k, mixed(), api.Keys{}, api.Keys{}, 0, api.ErrForm)
		expectMeet(t, mixed(), k, api.Keys{}, api.Keys{}, 0, api.ErrForm)
		expectMeet(t, k, k, api.Keys{}, api.Keys{}, 0, api.ErrForm)
	}
}
