package qneg_test

import (
	"math"
	"testing"

	"farwriter/api"
	"farwriter/qneg"
)

// heard is what Hear answers.
type heard struct {
	state, say int
	wrong      bool
}

// hearRow is a row of P5.1's table; the numbers are those that the chapter gives the states.
type hearRow struct {
	state            int
	may, mayNot, off heard
}

func hearRows() []hearRow {
	return []hearRow{
		{0, heard{1, 1, false}, heard{0, 2, false}, heard{0, 0, false}},
		{1, heard{1, 0, false}, heard{1, 0, false}, heard{0, 2, false}},
		{2, heard{0, 0, true}, heard{0, 0, true}, heard{0, 0, false}},
		{3, heard{1, 0, true}, heard{1, 0, true}, heard{4, 1, false}},
		{4, heard{1, 0, false}, heard{1, 0, false}, heard{0, 0, false}},
		{5, heard{2, 2, false}, heard{2, 2, false}, heard{0, 0, false}},
	}
}

// wantHeard tells what P5.1's table has.
func wantHeard(state int, on, agree bool) heard {
	row := hearRows()[state]
	switch {
	case !on:
		return row.off
	case agree:
		return row.may
	}
	return row.mayNot
}

func bools() []bool { return []bool{false, true} }

// noStates has numbers whose low bits are those of a state.
func noStates() []int {
	return []int{
		math.MinInt, math.MinInt + 1, math.MinInt32, math.MinInt32 + 4, -65536 + 3, -256 + 1, -5, -1,
		6, 7, 8, 255, 256, 256 + 1, 65536 + 2, math.MaxInt32, 1<<32 + 3, 1<<40 + 5, math.MaxInt,
	}
}

func expectHear(t *testing.T, state int, on, agree bool, want heard) {
	t.Helper()
	var got heard
	got.state, got.say, got.wrong = qneg.Hear(state, on, agree)
	if got != want {
		t.Errorf("Hear(%d, %v, %v) = %v; want %v", state, on, agree, got, want)
	}
}

func TestHearByTable(t *testing.T) {
	for _, row := range hearRows() {
		expectHear(t, row.state, true, true, row.may)
		expectHear(t, row.state, true, false, row.mayNot)
		expectHear(t, row.state, false, true, row.off)
		expectHear(t, row.state, false, false, row.off)
	}
}

// TestHearByName has the table's edges by the names of the states, so that names and numbers are held together.
func TestHearByName(t *testing.T) {
	expectHear(t, api.QNo, true, true, heard{api.QYes, 1, false})
	expectHear(t, api.QNo, true, false, heard{api.QNo, 2, false})
	expectHear(t, api.QYes, false, true, heard{api.QNo, 2, false})
	expectHear(t, api.QWantNo, true, true, heard{api.QNo, 0, true})
	expectHear(t, api.QWantNoOpp, true, false, heard{api.QYes, 0, true})
	expectHear(t, api.QWantNoOpp, false, false, heard{api.QWantYes, 1, false})
	expectHear(t, api.QWantYes, true, false, heard{api.QYes, 0, false})
	expectHear(t, api.QWantYes, false, true, heard{api.QNo, 0, false})
	expectHear(t, api.QWantYesOpp, true, true, heard{api.QWantNo, 2, false})
}

func TestHearOfNoState(t *testing.T) {
	for _, state := range noStates() {
		for _, on := range bools() {
			for _, agree := range bools() {
				expectHear(t, state, on, agree, heard{state: state})
			}
		}
	}
}

// TestHearTwiceIsQuiet: where an option may be on and nothing is asked, the same heard a second time changes nothing, so that no loop begins.
func TestHearTwiceIsQuiet(t *testing.T) {
	for _, state := range []int{api.QNo, api.QYes} {
		for _, on := range bools() {
			next, _, _ := qneg.Hear(state, on, true)
			expectHear(t, next, on, true, heard{state: next})
		}
	}
}
