package pair_test

import (
	"testing"

	"farwriter/api"
	"farwriter/pair"
)

func expectSettle(t *testing.T, what string, p, want api.Pair, err api.Errno) {
	t.Helper()
	got, e := pair.Settle(p)
	if e != err {
		t.Errorf("Settle of %s = %d; want %d", what, e, err)
	}
	expectPair(t, what, got, want)
}

func TestSettleOfQuietPairs(t *testing.T) {
	expectSettle(t, "nothing", api.Pair{}, api.Pair{}, api.OK)
	p := mixedPair()
	p.ToA, p.ToB = nil, []api.Tok{}
	expectSettle(t, "a pair with nothing under way", p, p, api.OK)
}

func TestSettleByHand(t *testing.T) {
	p := quietPair(may(5), may(5))
	p.A.Us[5], p.ToB, p.Sent = api.QWantYes, []api.Tok{tok(api.CWill, 5)}, 1
	want := quietPair(may(5), may(5))
	want.A.Us[5], want.B.Him[5], want.Sent = api.QYes, api.QYes, 2
	expectSettle(t, "A's ask, which B agrees to", p, want, api.OK)
	p.B.HimOk = [4]uint64{}
	want = quietPair(may(5), may(5))
	want.B.HimOk, want.Sent = [4]uint64{}, 2
	expectSettle(t, "A's ask, which B refuses", p, want, api.OK)
	p = quietPair(may(5), may(5))
	p.B.Him[5], p.ToA, p.Sent = api.QWantYesOpp, []api.Tok{tok(api.CDo, 5)}, 1
	want = quietPair(may(5), may(5))
	want.Sent = 4
	expectSettle(t, "B's ask, taken back", p, want, api.OK)
}

// settledByMoves makes rounds of moves by Step.
func settledByMoves(t *testing.T, p api.Pair) api.Pair {
	t.Helper()
	for n := 0; n < 4000 && len(p.ToA)+len(p.ToB) > 0; n++ {
		for _, kind := range []int{api.MToA, api.MToB} {
			next, e := pair.Step(p, api.Move{Kind: kind})
			if e != api.OK && e != api.ErrNone {
				t.Fatalf("Step of a whole Pair = %d", e)
			}
			p = next
		}
	}
	return p
}

// TestSettleIsRoundsOfMoves holds Settle against Steps, with ways and states of all sorts.
func TestSettleIsRoundsOfMoves(t *testing.T) {
	for seed := range 12 {
		for _, n := range [][2]int{{0, 1}, {1, 0}, {1, 1}, {7, 2}, {3, 40}, {90, 90}} {
			p := api.Pair{A: mixedNeg(seed), B: mixedNeg(5*seed + 1), ToA: way(n[0]), ToB: way(n[1]), Sent: seed}
			expectSettle(t, "states of all sorts", p, settledByMoves(t, p), api.OK)
		}
	}
}

// endless has commands of one option that go round for ever, as each end follows each of them and says so.
func endless() api.Pair {
	p := quietPair(may(5), may(5))
	p.ToA = []api.Tok{tok(api.CWill, 5), tok(api.CWont, 5)}
	return p
}

// TestSettleEnds: of what goes round for ever 4000 rounds are made, in each of which A takes and says, and then B.
func TestSettleEnds(t *testing.T) {
	want := endless()
	want.Sent = 8000
	expectSettle(t, "what goes round", endless(), want, api.OK)
}

// TestSettleCountsRounds: a round in which only B has something to take is one of the 4000 too.
func TestSettleCountsRounds(t *testing.T) {
	p := quietPair(may(5), may(5))
	p.ToB = []api.Tok{tok(api.CDo, 5), tok(api.CDont, 5)}
	want := quietPair(may(5), may(5))
	want.A.Him[5], want.B.Us[5] = api.QYes, api.QNo
	want.ToA, want.ToB = []api.Tok{tok(api.CWont, 5)}, []api.Tok{tok(api.CDo, 5)}
	want.Sent = 1 + 2*3999
	expectSettle(t, "what goes round from B on", p, want, api.OK)
}

// TestSettleOverTheBounds: within Settle the bounds of Check are not held.
func TestSettleOverTheBounds(t *testing.T) {
	want := endless()
	want.Sent = 1<<30 + 8000
	p := endless()
	p.Sent = 1 << 30
	expectSettle(t, "the most that was said", p, want, api.OK)
	full := api.Pair{ToA: repeat(tok(api.CDo, 5), 1000), ToB: repeat(tok(api.CWill, 5), 1000), Sent: 1}
	expectSettle(t, "full ways, all of it refused", full, api.Pair{Sent: 2001}, api.OK)
}

func repeat(t api.Tok, n int) []api.Tok {
	l := make([]api.Tok, n)
	for i := range l {
		l[i] = t
	}
	return l
}

func TestSettleOfBrokenPairs(t *testing.T) {
	for _, b := range allBroken() {
		expectSettle(t, b.what, b.p, b.p, b.err)
	}
}
