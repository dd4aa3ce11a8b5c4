package qneg_test

import (
	"math"
	"testing"

	"farwriter/api"
	"farwriter/qneg"
)

// setState lays a state into a Neg, by whose it is.
func setState(n *api.Neg, us bool, opt int, state uint8) {
	if us {
		n.Us[opt] = state
		return
	}
	n.Him[opt] = state
}

// setMay lays one option into the set of those that may be on, or takes it out.
func setMay(n *api.Neg, us bool, opt int, may bool) {
	set := &n.HimOk
	if us {
		set = &n.UsOk
	}
	set[opt/64] &^= 1 << (opt % 64)
	if may {
		set[opt/64] |= 1 << (opt % 64)
	}
}

// mixed is a Neg in which states of all sorts stand, and each side has its own.
func mixed() api.Neg {
	var n api.Neg
	for opt := range 256 {
		n.Us[opt] = uint8(opt % 6)
		n.Him[opt] = uint8((opt/2 + 3) % 6)
		setMay(&n, true, opt, opt%3 == 0)
		setMay(&n, false, opt, opt%5 == 1)
	}
	return n
}

func expectCheck(t *testing.T, what string, n api.Neg, want api.Errno) {
	t.Helper()
	if e := qneg.Check(n); e != want {
		t.Errorf("Check of %s = %d; want %d", what, e, want)
	}
}

func TestCheckOfWholeNegs(t *testing.T) {
	expectCheck(t, "nothing", api.Neg{}, api.OK)
	expectCheck(t, "states of all sorts", mixed(), api.OK)
	all := [4]uint64{math.MaxUint64, math.MaxUint64, math.MaxUint64, math.MaxUint64}
	expectCheck(t, "sets of all", api.Neg{UsOk: all, HimOk: all}, api.OK)
	var most api.Neg
	for opt := range 256 {
		most.Us[opt], most.Him[opt] = api.QWantYesOpp, api.QWantYesOpp
	}
	expectCheck(t, "the greatest states", most, api.OK)
	for opt := range 256 {
		most.Us[opt], most.Him[opt] = 255, 255
	}
	expectCheck(t, "no state at all", most, api.ErrForm)
}

func TestCheckOfEachState(t *testing.T) {
	for _, us := range bools() {
		for opt := range 256 {
			for state := range 256 {
				n := mixed()
				setState(&n, us, opt, uint8(state))
				want := api.OK
				if state > 5 {
					want = api.ErrForm
				}
				if e := qneg.Check(n); e != want {
					t.Fatalf("Check with state %d of option %d (ours: %v) = %d; want %d", state, opt, us, e, want)
				}
			}
		}
	}
}
