package pair_test

import (
	"math"
	"slices"
	"testing"

	"farwriter/api"
	"farwriter/pair"
)

func bools() []bool { return []bool{false, true} }

// tok is a command by its name and option.
func tok(cmd, opt int) api.Tok { return api.Tok{Kind: api.TNeg, Cmd: cmd, Opt: opt} }

// way has n commands, each other than its neighbour.
func way(n int) []api.Tok {
	l := make([]api.Tok, n)
	for i := range l {
		l[i] = tok(api.CWill+i%4, i*7%256)
	}
	return l
}

// mixedNeg has states and sets of all sorts; of two seeds they differ.
func mixedNeg(seed int) api.Neg {
	var n api.Neg
	for opt := range 256 {
		n.Us[opt] = uint8((opt + seed) % 6)
		n.Him[opt] = uint8((opt/6 + 2*seed) % 6)
	}
	for i := range 4 {
		n.UsOk[i] = 0x123456789abcdef1 * uint64(seed+i)
		n.HimOk[i] = 0xfedcba9876543211 * uint64(seed+2*i)
	}
	return n
}

func mixedPair() api.Pair {
	return api.Pair{A: mixedNeg(1), B: mixedNeg(4), ToA: way(5), ToB: way(3), Sent: 20}
}

// samePair: lists that have nothing in them may be nil or empty.
func samePair(p, q api.Pair) bool {
	return p.A == q.A && p.B == q.B && p.Sent == q.Sent && slices.Equal(p.ToA, q.ToA) && slices.Equal(p.ToB, q.ToB)
}

func copyPair(p api.Pair) api.Pair {
	p.ToA, p.ToB = slices.Clone(p.ToA), slices.Clone(p.ToB)
	return p
}

// expectPair shows the ways, and which options are wrong, as Negs are too long to be shown whole.
func expectPair(t *testing.T, what string, got, want api.Pair) {
	t.Helper()
	if samePair(got, want) {
		return
	}
	t.Errorf("%s: to A %v, to B %v, sent %d; want %v, %v, %d; options that are wrong: %v, %v", what,
		got.ToA, got.ToB, got.Sent, want.ToA, want.ToB, want.Sent, diff(got.A, want.A), diff(got.B, want.B))
}

// diff tells options of which the states are wrong; -1 is a wrong set.
func diff(got, want api.Neg) []int {
	var l []int
	if got.UsOk != want.UsOk || got.HimOk != want.HimOk {
		l = append(l, -1)
	}
	for opt := range 256 {
		if got.Us[opt] != want.Us[opt] || got.Him[opt] != want.Him[opt] {
			l = append(l, opt)
		}
	}
	return l
}

// broken is a Pair that Check refuses.
type broken struct {
	what string
	p    api.Pair
	err  api.Errno
}

func expectCheck(t *testing.T, what string, p api.Pair, want api.Errno) {
	t.Helper()
	if e := pair.Check(p); e != want {
		t.Errorf("Check of %s = %d; want %d", what, e, want)
	}
}

func TestCheckOfWholePairs(t *testing.T) {
	expectCheck(t, "nothing", api.Pair{}, api.OK)
	expectCheck(t, "empty lists", api.Pair{ToA: []api.Tok{}, ToB: []api.Tok{}}, api.OK)
	expectCheck(t, "all sorts of states", mixedPair(), api.OK)
	expectCheck(t, "full ways", api.Pair{ToA: way(1000), ToB: way(1000)}, api.OK)
	expectCheck(t, "the most that was said", api.Pair{Sent: 1 << 30}, api.OK)
	for cmd := 251; cmd <= 254; cmd++ {
		for opt := range 256 {
			expectCheck(t, "a command to A", api.Pair{ToA: []api.Tok{tok(cmd, opt)}}, api.OK)
			expectCheck(t, "a command to B", api.Pair{ToB: []api.Tok{tok(cmd, opt)}}, api.OK)
		}
	}
}

// noToks has tokens that are wrong in one field, some of them with the low bits of a right one.
func noToks() []api.Tok {
	l := []api.Tok{{}, {Kind: api.TData, Data: "a"}, {Kind: api.TSub, Opt: 1, Data: "a"}, {Kind: api.TNeg}}
	for _, kind := range []int{math.MinInt, -3, 0, api.TData, api.TCmd, api.TSub, api.TBad, 6, 256 + 3, 1<<32 + 3, math.MaxInt} {
		l = append(l, api.Tok{Kind: kind, Cmd: api.CDo, Opt: 3})
	}
	for _, cmd := range []int{math.MinInt, -5, 0, 250, 255, 256 + 251, 1<<32 + 253, math.MaxInt} {
		l = append(l, tok(cmd, 3))
	}
	for _, opt := range []int{math.MinInt, -256, -1, 256, 1<<32 + 3, math.MaxInt} {
		l = append(l, tok(api.CWont, opt))
	}
	return append(l, api.Tok{Kind: api.TNeg, Cmd: api.CWill, Opt: 3, Data: "a"}, api.Tok{Kind: api.TNeg, Cmd: api.CDont, Opt: 3, Data: "\x00"})
}

// brokenNegs has pairs of which one end has a state that is none.
func brokenNegs() []broken {
	var l []broken
	for _, opt := range []int{0, 100, 255} {
		for _, state := range []uint8{6, 128, 255} {
			for i := range 4 {
				p := mixedPair()
				[]*[256]uint8{&p.A.Us, &p.A.Him, &p.B.Us, &p.B.Him}[i][opt] = state
				l = append(l, broken{"a state that is none", p, api.ErrForm})
			}
		}
	}
	return l
}

// brokenWays has pairs with a wrong token at the front, amid and at the end of a way.
func brokenWays() []broken {
	var l []broken
	for _, t := range noToks() {
		for _, at := range []int{0, 2, 4} {
			p, q := mixedPair(), mixedPair()
			p.ToA, q.ToB = way(5), way(5)
			p.ToA[at], q.ToB[at] = t, t
			l = append(l, broken{"a wrong token to A", p, api.ErrForm}, broken{"a wrong token to B", q, api.ErrForm})
		}
	}
	return l
}

func brokenSizes() []broken {
	var l []broken
	for _, n := range []int{1001, 1002, 5000} {
		p, q := mixedPair(), mixedPair()
		p.ToA, q.ToB = way(n), way(n)
		l = append(l, broken{"a long way to A", p, api.ErrLarge}, broken{"a long way to B", q, api.ErrLarge})
	}
	for _, n := range []int{math.MinInt, -1 << 32, -1 << 30, -1, 1<<30 + 1, 1 << 31, 1 << 32, 1<<32 + 7, math.MaxInt} {
		p := mixedPair()
		p.Sent = n
		l = append(l, broken{"a count out of its bounds", p, api.ErrLarge})
	}
	return l
}

// brokenTwice has pairs that are too large and wrong in form: the form is told first.
func brokenTwice() []broken {
	var l []broken
	for _, b := range append(brokenNegs(), brokenWays()...) {
		less, more := b.p, b.p
		less.Sent, more.Sent = -1, 1<<30+1
		l = append(l, broken{b.what + ", less than nothing said", less, b.err}, broken{b.what + ", too much said", more, b.err})
	}
	for _, at := range []int{0, 999, 1000, 1001, 1999} {
		p, q := mixedPair(), mixedPair()
		p.ToA, q.ToB = way(2000), way(2000)
		p.ToA[at], q.ToB[at] = tok(255, 1), tok(250, 1)
		l = append(l, broken{"a long way to A, a wrong token", p, api.ErrForm}, broken{"a long way to B, a wrong token", q, api.ErrForm})
	}
	p := mixedPair()
	p.ToA, p.B.Him[9] = way(1001), 6
	return append(l, broken{"a long way to A, a wrong state of B", p, api.ErrForm})
}

func allBroken() []broken {
	return slices.Concat(brokenNegs(), brokenWays(), brokenSizes(), brokenTwice())
}

func TestCheckOfBrokenPairs(t *testing.T) {
	for _, b := range allBroken() {
		expectCheck(t, b.what, b.p, b.err)
	}
}
