package qneg_test

import (
	"testing"

	"farwriter/api"
	"farwriter/qneg"
)

// asked is what Ask answers.
type asked struct {
	state, say int
	err        api.Errno
}

// askRow is a row of P5.2's table; what the table leaves empty is an ErrState, with the state as it was.
type askRow struct {
	state   int
	on, off asked
}

func askRows() []askRow {
	return []askRow{
		{0, asked{4, 1, api.OK}, asked{0, 0, api.ErrState}},
		{1, asked{1, 0, api.ErrState}, asked{2, 2, api.OK}},
		{2, asked{3, 0, api.OK}, asked{2, 0, api.ErrState}},
		{3, asked{3, 0, api.ErrState}, asked{2, 0, api.OK}},
		{4, asked{4, 0, api.ErrState}, asked{5, 0, api.OK}},
		{5, asked{4, 0, api.OK}, asked{5, 0, api.ErrState}},
	}
}

// wantAsked tells what P5.2's table has.
func wantAsked(state int, on bool) asked {
	if on {
		return askRows()[state].on
	}
	return askRows()[state].off
}

func expectAsk(t *testing.T, state int, on bool, want asked) {
	t.Helper()
	var got asked
	got.state, got.say, got.err = qneg.Ask(state, on)
	if got != want {
		t.Errorf("Ask(%d, %v) = %v; want %v", state, on, got, want)
	}
}

func TestAskByTable(t *testing.T) {
	for _, row := range askRows() {
		expectAsk(t, row.state, true, row.on)
		expectAsk(t, row.state, false, row.off)
	}
}

// TestAskByName has the table by the names of the states, so that names and numbers are held together.
func TestAskByName(t *testing.T) {
	expectAsk(t, api.QNo, true, asked{api.QWantYes, 1, api.OK})
	expectAsk(t, api.QYes, false, asked{api.QWantNo, 2, api.OK})
	expectAsk(t, api.QWantNo, true, asked{api.QWantNoOpp, 0, api.OK})
	expectAsk(t, api.QWantNoOpp, false, asked{api.QWantNo, 0, api.OK})
	expectAsk(t, api.QWantYes, false, asked{api.QWantYesOpp, 0, api.OK})
	expectAsk(t, api.QWantYesOpp, true, asked{api.QWantYes, 0, api.OK})
}

// TestAskTwice: what was asked for is not asked for again.
func TestAskTwice(t *testing.T) {
	for _, row := range askRows() {
		for _, on := range bools() {
			next, _, _ := qneg.Ask(row.state, on)
			expectAsk(t, next, on, asked{next, 0, api.ErrState})
		}
	}
}

func TestAskOfNoState(t *testing.T) {
	for _, state := range noStates() {
		for _, on := range bools() {
			expectAsk(t, state, on, asked{state, 0, api.ErrArg})
		}
	}
}
