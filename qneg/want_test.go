package qneg_test

import (
	"math"
	"testing"

	"farwriter/api"
	"farwriter/iac"
	"farwriter/qneg"
)

func expectWant(t *testing.T, n api.Neg, us bool, opt int, on bool, want api.Neg, said string, err api.Errno) {
	t.Helper()
	got, s, e := qneg.Want(n, us, opt, on)
	if s != said || e != err {
		t.Fatalf("Want(%v, %d, %v) says %x, %d; want %x, %d", us, opt, on, s, e, said, err)
	}
	if got != want {
		t.Fatalf("Want(%v, %d, %v): sets %v, %v, want %v, %v; states that are wrong: %v", us, opt, on, got.UsOk, got.HimOk, want.UsOk, want.HimOk, diff(got, want))
	}
}

// wanted is an ask in one state, and what is behind it.
type wanted struct {
	us, on        bool
	before, after uint8
	said          string
	err           api.Errno
}

func TestWantByHand(t *testing.T) {
	for _, c := range []wanted{
		{true, true, api.QNo, api.QWantYes, "\xff\xfb\x1f", api.OK},
		{true, false, api.QYes, api.QWantNo, "\xff\xfc\x1f", api.OK},
		{false, true, api.QNo, api.QWantYes, "\xff\xfd\x1f", api.OK},
		{false, false, api.QYes, api.QWantNo, "\xff\xfe\x1f", api.OK},
		{true, true, api.QWantNo, api.QWantNoOpp, "", api.OK},
		{false, false, api.QWantNoOpp, api.QWantNo, "", api.OK},
		{true, false, api.QWantYes, api.QWantYesOpp, "", api.OK},
		{false, true, api.QWantYesOpp, api.QWantYes, "", api.OK},
		{true, false, api.QNo, api.QNo, "", api.ErrState},
		{false, true, api.QYes, api.QYes, "", api.ErrState},
		{true, true, api.QWantYes, api.QWantYes, "", api.ErrState},
		{false, false, api.QWantNo, api.QWantNo, "", api.ErrState},
	} {
		before := mixed()
		setState(&before, c.us, 31, c.before)
		after := before
		setState(&after, c.us, 31, c.after)
		expectWant(t, before, c.us, 31, c.on, after, c.said, c.err)
	}
}

// TestWantOfEachOption: the sets of what may be on are for what the other end asks, not for what we do.
func TestWantOfEachOption(t *testing.T) {
	for _, us := range bools() {
		for opt := range 256 {
			for state := range 6 {
				for _, on := range bools() {
					for _, may := range bools() {
						before := mixed()
						setMay(&before, us, opt, may)
						setState(&before, us, opt, uint8(state))
						a := wantAsked(state, on)
						after := before
						setState(&after, us, opt, uint8(a.state))
						expectWant(t, before, us, opt, on, after, said(us, a.say, opt), a.err)
					}
				}
			}
		}
	}
}

func noOptions() []int {
	return []int{math.MinInt, math.MinInt + 3, -65536, -256, -255, -64, -1, 256, 257, 511, 65536, 1<<32 + 3, math.MaxInt}
}

func TestWantOfNoOption(t *testing.T) {
	for _, n := range []api.Neg{{}, mixed()} {
		for _, opt := range noOptions() {
			for _, us := range bools() {
				expectWant(t, n, us, opt, true, n, "", api.ErrArg)
				expectWant(t, n, us, opt, false, n, "", api.ErrArg)
			}
		}
	}
}

// TestWantOfNoNeg: Check's error is told ahead of the option's, and of Ask's.
func TestWantOfNoNeg(t *testing.T) {
	for _, n := range noNegs() {
		for _, opt := range append(noOptions(), 0, 1, 3, 255) {
			for _, us := range bools() {
				expectWant(t, n, us, opt, true, n, "", api.ErrForm)
				expectWant(t, n, us, opt, false, n, "", api.ErrForm)
			}
		}
	}
}

// TestWantLeavesWhatIsHandedIn: the Neg that was handed in is as it was, and the same call answers the same.
func TestWantLeavesWhatIsHandedIn(t *testing.T) {
	var n, after api.Neg
	after.Him[1] = api.QWantYes
	for range 2 {
		expectWant(t, n, false, 1, true, after, "\xff\xfd\x01", api.OK)
		if n != (api.Neg{}) {
			t.Error("Want changes what is handed in")
		}
	}
}

// TestSaidIsReadAsMeant: what one end says of each option is a command to the stream, and another end takes it.
func TestSaidIsReadAsMeant(t *testing.T) {
	for opt := range 256 {
		for _, us := range bools() {
			_, s, _ := qneg.Want(api.Neg{}, us, opt, true)
			_, toks, e := iac.Feed(api.Wire{}, s)
			if e != api.OK || len(toks) != 1 {
				t.Fatalf("%x is read as %v, %d", s, toks, e)
			}
			var other, after api.Neg
			setMay(&other, !us, opt, true)
			after = other
			setState(&after, !us, opt, api.QYes)
			expectTake(t, other, toks[0], after, said(!us, 1, opt), api.OK)
		}
	}
}
