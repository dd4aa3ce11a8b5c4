package pair_test

import (
	"math"
	"slices"
	"testing"

	"farwriter/api"
	"farwriter/pair"
)

func expectPlay(t *testing.T, what string, a, b api.Ends, moves []api.Move, want api.Pair, told []api.Errno) {
	t.Helper()
	got, l, e := pair.Play(a, b, moves)
	if e != api.OK || !slices.Equal(l, told) {
		t.Errorf("Play of %s tells %v, %d; want %v, 0", what, l, e, told)
	}
	expectPair(t, what, got, want)
}

func TestPlayOfNothing(t *testing.T) {
	a := api.Ends{UsOk: [4]uint64{1, 2, 3, 4}, HimOk: [4]uint64{5, 6, 7, 8}}
	b := api.Ends{UsOk: [4]uint64{9, 10, 11, 12}, HimOk: [4]uint64{13, 14, 15, math.MaxUint64}}
	want := api.Pair{
		A: api.Neg{UsOk: [4]uint64{1, 2, 3, 4}, HimOk: [4]uint64{5, 6, 7, 8}},
		B: api.Neg{UsOk: [4]uint64{9, 10, 11, 12}, HimOk: [4]uint64{13, 14, 15, math.MaxUint64}},
	}
	expectPlay(t, "nothing", a, b, nil, want, nil)
	expectPlay(t, "an empty list", a, b, []api.Move{}, want, nil)
}

// TestPlayByHand: an option that the one asks for, and the other may have, is on behind two sayings.
func TestPlayByHand(t *testing.T) {
	ask := api.Move{Kind: api.MAskA, Us: true, Opt: 5, On: true}
	moves := []api.Move{ask, {Kind: api.MToB}, {Kind: api.MToA}}
	want := quietPair(api.Ends{}, may(5))
	want.A.Us[5], want.B.Him[5], want.Sent = api.QYes, api.QYes, 2
	expectPlay(t, "an ask that is agreed to", api.Ends{}, may(5), moves, want, []api.Errno{0, 0, 0})
	want = quietPair(may(5), api.Ends{})
	want.Sent = 2
	expectPlay(t, "an ask that is refused", may(5), api.Ends{}, moves, want, []api.Errno{0, 0, 0})
	want = quietPair(may(5), may(5))
	want.A.Us[5], want.ToB, want.Sent = api.QWantYes, []api.Tok{tok(api.CWill, 5)}, 1
	expectPlay(t, "an ask that is under way", may(5), may(5), moves[:1], want, []api.Errno{0})
}

// TestPlayOfErrors: a Step that fails changes nothing, and what comes behind it is made.
func TestPlayOfErrors(t *testing.T) {
	moves := []api.Move{
		{Kind: api.MToA}, {Kind: api.MAskB, Opt: 9, On: true}, {Kind: api.MAskB, Opt: 9, On: true}, {Kind: 5},
		{Kind: api.MAskA, Opt: 256, On: true}, {Kind: api.MToB}, {Kind: api.MToA}, {Kind: api.MToB}, {Kind: api.MToB},
	}
	told := []api.Errno{api.ErrNone, 0, api.ErrState, api.ErrArg, api.ErrArg, api.ErrNone, 0, 0, api.ErrNone}
	want := quietPair(may(9), api.Ends{})
	want.A.Us[9], want.B.Him[9], want.Sent = api.QYes, api.QYes, 2
	expectPlay(t, "moves of which some fail", may(9), api.Ends{}, moves, want, told)
}

func TestPlayOfManyMoves(t *testing.T) {
	moves := make([]api.Move, 200)
	told := make([]api.Errno, 200)
	want := api.Pair{Sent: 200}
	for i := range moves {
		moves[i] = api.Move{Kind: api.MAskA, Us: true, Opt: i, On: true}
		want.A.Us[i] = api.QWantYes
		want.ToB = append(want.ToB, tok(api.CWill, i))
	}
	expectPlay(t, "the most moves", api.Ends{}, api.Ends{}, moves, want, told)
	for _, n := range []int{201, 202, 1000} {
		for _, kind := range []int{0, api.MAskA, api.MToB} {
			moves := slices.Repeat([]api.Move{{Kind: kind, Opt: 5, On: true}}, n)
			p, l, e := pair.Play(may(5), may(5), moves)
			if len(l) != 0 || e != api.ErrLarge {
				t.Errorf("Play of %d moves tells %v, %d", n, l, e)
			}
			expectPair(t, "too many moves", p, api.Pair{})
		}
	}
}

// TestPlayIsSteps holds Play against Steps one by one.
func TestPlayIsSteps(t *testing.T) {
	for seed := range 40 {
		moves := script(seed, 200)
		a, b := mixedEnds(seed), mixedEnds(3*seed+1)
		want := quietPair(a, b)
		told := make([]api.Errno, len(moves))
		for i, m := range moves {
			want, told[i] = pair.Step(want, m)
		}
		expectPlay(t, "a script", a, b, moves, want, told)
	}
}

func mixedEnds(seed int) api.Ends {
	n := mixedNeg(seed)
	return api.Ends{UsOk: n.UsOk, HimOk: n.HimOk}
}

// script has moves of few options, so that they meet; it is the same for the same seed.
func script(seed, n int) []api.Move {
	x := uint32(seed)*2654435761 + 12345
	moves := make([]api.Move, n)
	for i := range moves {
		x = x*1664525 + 1013904223
		bits := int(x >> 16)
		moves[i] = api.Move{Kind: 1 + bits%4, Us: bits&4 != 0, Opt: 62 + bits>>4%4, On: bits&8 != 0}
	}
	return moves
}

// asks counts the asks that were made: the others changed nothing.
func asks(moves []api.Move, told []api.Errno) int {
	n := 0
	for i, m := range moves {
		if m.Kind <= api.MAskB && told[i] == api.OK {
			n++
		}
	}
	return n
}

// expectAgreed: there is no loop. No more is said than twice what was asked for, and then both hold the same.
func expectAgreed(t *testing.T, a, b api.Ends, moves []api.Move) {
	t.Helper()
	p, told, _ := pair.Play(a, b, moves)
	p, e := pair.Settle(p)
	if e != api.OK || len(p.ToA)+len(p.ToB) > 0 {
		t.Fatalf("%v does not come to rest: %v, %v, %d", moves, p.ToA, p.ToB, e)
	}
	if n := asks(moves, told); p.Sent > 2*n {
		t.Fatalf("%v: %d said, of %d asks", moves, p.Sent, n)
	}
	if p.A.Us != p.B.Him || p.A.Him != p.B.Us {
		t.Fatalf("%v: both ends hold otherwise", moves)
	}
	if slices.Max(p.A.Us[:]) > api.QYes || slices.Max(p.A.Him[:]) > api.QYes {
		t.Fatalf("%v: something is still asked for", moves)
	}
}

func TestScriptsComeToRest(t *testing.T) {
	for seed := range 300 {
		expectAgreed(t, mixedEnds(seed), mixedEnds(3*seed+1), script(seed, seed%201))
	}
}

// TestShortScriptsComeToRest has every order of some moves about one option of A's.
func TestShortScriptsComeToRest(t *testing.T) {
	kinds := []api.Move{
		{Kind: api.MAskA, Us: true, Opt: 5}, {Kind: api.MAskA, Us: true, Opt: 5, On: true},
		{Kind: api.MAskB, Opt: 5}, {Kind: api.MAskB, Opt: 5, On: true}, {Kind: api.MToA}, {Kind: api.MToB},
	}
	for _, sets := range [][2]api.Ends{{may(5), may(5)}, {may(5), {}}, {{}, may(5)}, {}} {
		for n := range 6 * 6 * 6 * 6 * 6 {
			var moves []api.Move
			for k := range 5 {
				moves = append(moves, kinds[n/[]int{1, 6, 36, 216, 1296}[k]%6])
			}
			expectAgreed(t, sets[0], sets[1], moves)
		}
	}
}
