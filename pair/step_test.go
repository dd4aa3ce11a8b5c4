package pair_test

import (
	"math"
	"testing"

	"farwriter/api"
	"farwriter/pair"
	"farwriter/qneg"
)

func expectStep(t *testing.T, what string, p api.Pair, m api.Move, want api.Pair, err api.Errno) {
	t.Helper()
	got, e := pair.Step(p, m)
	if e != err {
		t.Errorf("%s: Step of %v = %d; want %d", what, m, e, err)
	}
	expectPair(t, what, got, want)
}

// may has one option in both sets.
func may(opt int) api.Ends {
	var e api.Ends
	e.UsOk[opt/64] = 1 << (opt % 64)
	e.HimOk = e.UsOk
	return e
}

func quietPair(a, b api.Ends) api.Pair {
	return api.Pair{A: api.Neg{UsOk: a.UsOk, HimOk: a.HimOk}, B: api.Neg{UsOk: b.UsOk, HimOk: b.HimOk}}
}

func TestStepOfAskA(t *testing.T) {
	p := quietPair(may(5), api.Ends{})
	p.ToA, p.ToB, p.Sent = way(2), way(3), 9
	want := copyPair(p)
	want.A.Us[5] = api.QWantYes
	want.ToB, want.Sent = append(way(3), tok(api.CWill, 5)), 10
	expectStep(t, "A will", p, api.Move{Kind: api.MAskA, Us: true, Opt: 5, On: true}, want, api.OK)
	want = copyPair(p)
	want.A.Him[255] = api.QWantYes
	want.ToB, want.Sent = append(way(3), tok(api.CDo, 255)), 10
	expectStep(t, "A has B do", p, api.Move{Kind: api.MAskA, Opt: 255, On: true}, want, api.OK)
	p.A.Us[0] = api.QYes
	want = copyPair(p)
	want.A.Us[0] = api.QWantNo
	want.ToB, want.Sent = append(way(3), tok(api.CWont, 0)), 10
	expectStep(t, "A won't", p, api.Move{Kind: api.MAskA, Us: true}, want, api.OK)
}

func TestStepOfAskB(t *testing.T) {
	p := quietPair(may(5), api.Ends{})
	p.B.Him[64] = api.QYes
	p.ToA, p.ToB, p.Sent = way(2), way(3), 9
	want := copyPair(p)
	want.B.Us[5] = api.QWantYes
	want.ToA, want.Sent = append(way(2), tok(api.CWill, 5)), 10
	expectStep(t, "B will", p, api.Move{Kind: api.MAskB, Us: true, Opt: 5, On: true}, want, api.OK)
	want = copyPair(p)
	want.B.Him[64] = api.QWantNo
	want.ToA, want.Sent = append(way(2), tok(api.CDont, 64)), 10
	expectStep(t, "B has A not do", p, api.Move{Kind: api.MAskB, Opt: 64}, want, api.OK)
}

// TestStepOfQuietAsk: what is asked while an answer is awaited changes the state, and nothing is said or counted.
func TestStepOfQuietAsk(t *testing.T) {
	p := mixedPair()
	p.A.Us[5], p.B.Him[5] = api.QWantYes, api.QWantNo
	want := copyPair(p)
	want.A.Us[5] = api.QWantYesOpp
	expectStep(t, "A asks for the opposite", p, api.Move{Kind: api.MAskA, Us: true, Opt: 5}, want, api.OK)
	want = copyPair(p)
	want.B.Him[5] = api.QWantNoOpp
	expectStep(t, "B asks for the opposite", p, api.Move{Kind: api.MAskB, Opt: 5, On: true}, want, api.OK)
}

func TestStepOfToA(t *testing.T) {
	p := quietPair(may(7), api.Ends{})
	p.ToA = []api.Tok{tok(api.CDo, 7), tok(api.CWill, 8), tok(api.CWont, 7)}
	p.ToB, p.Sent = way(2), 3
	want := copyPair(p)
	want.A.Us[7] = api.QYes
	want.ToA, want.ToB, want.Sent = p.ToA[1:], append(way(2), tok(api.CWill, 7)), 4
	expectStep(t, "A agrees", p, api.Move{Kind: api.MToA}, want, api.OK)
	p, want = copyPair(want), copyPair(want)
	want.ToA, want.ToB, want.Sent = p.ToA[1:], append(want.ToB, tok(api.CDont, 8)), 5
	expectStep(t, "A refuses", p, api.Move{Kind: api.MToA}, want, api.OK)
	p, want = copyPair(want), copyPair(want)
	want.ToA = nil
	expectStep(t, "A says nothing", p, api.Move{Kind: api.MToA}, want, api.OK)
	expectStep(t, "nothing is under way to A", want, api.Move{Kind: api.MToA}, want, api.ErrNone)
}

func TestStepOfToB(t *testing.T) {
	p := quietPair(api.Ends{}, may(7))
	p.B.Him[9] = api.QYes
	p.ToB = []api.Tok{tok(api.CWill, 7), tok(api.CWont, 9), tok(api.CDont, 9)}
	want := copyPair(p)
	want.B.Him[7] = api.QYes
	want.ToA, want.ToB, want.Sent = []api.Tok{tok(api.CDo, 7)}, p.ToB[1:], 1
	expectStep(t, "B agrees", p, api.Move{Kind: api.MToB}, want, api.OK)
	p, want = copyPair(want), copyPair(want)
	want.B.Him[9] = api.QNo
	want.ToA, want.ToB, want.Sent = append(want.ToA, tok(api.CDont, 9)), p.ToB[1:], 2
	expectStep(t, "B leaves off", p, api.Move{Kind: api.MToB}, want, api.OK)
	p, want = copyPair(want), copyPair(want)
	want.ToB = nil
	expectStep(t, "B says nothing", p, api.Move{Kind: api.MToB}, want, api.OK)
	expectStep(t, "nothing is under way to B", want, api.Move{Kind: api.MToB}, want, api.ErrNone)
}

// TestStepLooksAtItsOwnWay: what is under way to the one end is not the other's.
func TestStepLooksAtItsOwnWay(t *testing.T) {
	p := api.Pair{ToA: way(2)}
	expectStep(t, "all goes to A", p, api.Move{Kind: api.MToB}, p, api.ErrNone)
	p = api.Pair{ToB: way(2)}
	expectStep(t, "all goes to B", p, api.Move{Kind: api.MToA}, p, api.ErrNone)
}

// TestStepOfToHasNoUseForTheRest: where a command is handed over, a move's other fields mean nothing.
func TestStepOfToHasNoUseForTheRest(t *testing.T) {
	p := mixedPair()
	for _, kind := range []int{api.MToA, api.MToB} {
		want, _ := pair.Step(p, api.Move{Kind: kind})
		for _, opt := range []int{math.MinInt, -1, 3, 256, math.MaxInt} {
			expectStep(t, "a move with more in it", p, api.Move{Kind: kind, Us: true, Opt: opt, On: true}, want, api.OK)
		}
	}
}

// said is what an end says as a token, by the bytes that package qneg tells.
func said(s string) []api.Tok {
	if s == "" {
		return nil
	}
	return []api.Tok{tok(int(s[1]), int(s[2]))}
}

// TestStepOfEachAsk holds an ask of each option against what package qneg tells of it.
func TestStepOfEachAsk(t *testing.T) {
	p := mixedPair()
	for opt := range 256 {
		for i := range 4 {
			m := api.Move{Us: i&1 == 0, Opt: opt, On: i&2 == 0}
			a, b := copyPair(p), copyPair(p)
			var s string
			var e api.Errno
			a.A, s, e = qneg.Want(p.A, m.Us, opt, m.On)
			a.ToB, a.Sent = append(a.ToB, said(s)...), a.Sent+len(said(s))
			m.Kind = api.MAskA
			expectStep(t, "A asks", p, m, a, e)
			b.B, s, e = qneg.Want(p.B, m.Us, opt, m.On)
			b.ToA, b.Sent = append(b.ToA, said(s)...), b.Sent+len(said(s))
			m.Kind = api.MAskB
			expectStep(t, "B asks", p, m, b, e)
		}
	}
}

// TestStepOfEachCommand holds each command that is handed over against what package qneg tells of it.
func TestStepOfEachCommand(t *testing.T) {
	for opt := range 256 {
		for cmd := api.CWill; cmd <= api.CDont; cmd++ {
			p := mixedPair()
			p.ToA[0], p.ToB[0] = tok(cmd, opt), tok(cmd, opt)
			a, b := copyPair(p), copyPair(p)
			var s string
			a.A, s, _ = qneg.Take(p.A, tok(cmd, opt))
			a.ToA, a.ToB, a.Sent = a.ToA[1:], append(a.ToB, said(s)...), a.Sent+len(said(s))
			expectStep(t, "A takes", p, api.Move{Kind: api.MToA}, a, api.OK)
			b.B, s, _ = qneg.Take(p.B, tok(cmd, opt))
			b.ToB, b.ToA, b.Sent = b.ToB[1:], append(b.ToA, said(s)...), b.Sent+len(said(s))
			expectStep(t, "B takes", p, api.Move{Kind: api.MToB}, b, api.OK)
		}
	}
}

func noKinds() []int {
	return []int{math.MinInt, -256 + 1, -4, -1, 0, 5, 6, 256 + 1, 65536 + 3, 1<<32 + 2, 1<<32 + 4, math.MaxInt}
}

func TestStepOfWrongMoves(t *testing.T) {
	p := mixedPair()
	for _, kind := range noKinds() {
		expectStep(t, "no kind", p, api.Move{Kind: kind, Opt: 4, On: true}, p, api.ErrArg)
	}
	for _, kind := range []int{api.MAskA, api.MAskB} {
		for _, opt := range []int{math.MinInt, -256, -1, 256, 257, 1<<32 + 5, math.MaxInt} {
			expectStep(t, "no option", p, api.Move{Kind: kind, Us: true, Opt: opt, On: true}, p, api.ErrArg)
		}
	}
	p.A.Us[5], p.B.Us[5] = api.QYes, api.QNo
	expectStep(t, "A has it on", p, api.Move{Kind: api.MAskA, Us: true, Opt: 5, On: true}, p, api.ErrState)
	expectStep(t, "B has it off", p, api.Move{Kind: api.MAskB, Us: true, Opt: 5}, p, api.ErrState)
}

// TestStepOfBrokenPairs: Check's error is told ahead of the move's, and the Pair as it was.
func TestStepOfBrokenPairs(t *testing.T) {
	moves := []api.Move{
		{}, {Kind: 5}, {Kind: api.MToA}, {Kind: api.MToB}, {Kind: api.MAskA, Opt: 256},
		{Kind: api.MAskA, Us: true, Opt: 6, On: true}, {Kind: api.MAskB, Opt: 6, On: true},
	}
	for _, b := range allBroken() {
		for _, m := range moves {
			expectStep(t, b.what, b.p, m, b.p, b.err)
		}
	}
}

// TestStepOverTheBound: the bounds are held ahead of a move, so that the step beyond them is made, and the next one isn't.
func TestStepOverTheBound(t *testing.T) {
	full := api.Pair{ToA: way(1000), ToB: way(1000)}
	for _, kind := range []int{api.MAskA, api.MAskB} {
		m := api.Move{Kind: kind, Us: true, Opt: 3, On: true}
		p, e := pair.Step(full, m)
		if e != api.OK || len(p.ToA)+len(p.ToB) != 2001 || p.Sent != 1 {
			t.Errorf("Step of %v with full ways: %d to A, %d to B, %d", m, len(p.ToA), len(p.ToB), e)
		}
		expectStep(t, "a way that is too long", p, api.Move{Kind: api.MToA}, p, api.ErrLarge)
	}
	most := api.Pair{Sent: 1 << 30}
	want := api.Pair{ToB: []api.Tok{tok(api.CWill, 3)}, Sent: 1<<30 + 1}
	want.A.Us[3] = api.QWantYes
	expectStep(t, "the most is said", most, api.Move{Kind: api.MAskA, Us: true, Opt: 3, On: true}, want, api.OK)
	expectStep(t, "more than the most was said", want, api.Move{Kind: api.MToB}, want, api.ErrLarge)
}
