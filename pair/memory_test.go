package pair_test

import (
	"slices"
	"testing"

	"farwriter/api"
	"farwriter/pair"
)

var mark = api.Tok{Kind: 77, Cmd: 77, Opt: 77, Data: "mark"}

// fill writes over a list, the room behind it included.
func fill(l []api.Tok) {
	l = l[:cap(l)]
	for i := range l {
		l[i] = mark
	}
}

// call is one of the calls that tell a Pair.
type call struct {
	what string
	do   func(p api.Pair) api.Pair
}

func calls() []call {
	l := []call{{"Settle", func(p api.Pair) api.Pair { q, _ := pair.Settle(p); return q }}}
	for _, m := range []api.Move{
		{}, {Kind: api.MToA}, {Kind: api.MToB}, {Kind: api.MAskA, Opt: 256},
		{Kind: api.MAskA, Us: true, Opt: 5, On: true}, {Kind: api.MAskB, Us: true, Opt: 5, On: true},
	} {
		l = append(l, call{"Step", func(p api.Pair) api.Pair { q, _ := pair.Step(p, m); return q }})
	}
	return l
}

// handedIn has pairs that are whole, that say something back, and that Check refuses.
func handedIn() []api.Pair {
	over := endless()
	over.Sent = -1
	none := mixedPair()
	none.A.Us[3] = 9
	l := []api.Pair{{}, {ToA: []api.Tok{}}, mixedPair(), endless(), over, none}
	return append(l, api.Pair{ToA: repeat(tok(api.CDo, 5), 3), ToB: repeat(tok(api.CWill, 5), 3)})
}

// roomy lays both ways into one list, with room behind each.
func roomy(p api.Pair) (api.Pair, []api.Tok) {
	room := slices.Concat(p.ToA, []api.Tok{mark, mark, mark}, p.ToB, []api.Tok{mark, mark, mark})
	p.ToB = room[len(p.ToA)+3:][:len(p.ToB)]
	p.ToA = room[:len(p.ToA)]
	return p, room
}

func TestPairsShareNoMemory(t *testing.T) {
	for _, c := range calls() {
		for _, p := range handedIn() {
			want := copyPair(c.do(copyPair(p)))
			in, room := roomy(p)
			kept := slices.Clone(room)
			got := c.do(in)
			if !slices.Equal(room, kept) {
				t.Errorf("%s changes what is handed in: %v", c.what, room)
			}
			fill(room)
			expectPair(t, c.what+" keeps what is handed in", got, want)
			copy(room, kept)
			fill(got.ToA)
			if !slices.Equal(room, kept) || !slices.Equal(got.ToB, want.ToB) {
				t.Errorf("%s: the way to A is shared", c.what)
			}
			got = c.do(in)
			fill(got.ToB)
			if !slices.Equal(room, kept) || !slices.Equal(got.ToA, want.ToA) {
				t.Errorf("%s: the way to B is shared", c.what)
			}
			expectPair(t, c.what+" a second time", c.do(in), want)
		}
	}
}

func TestPlayKeepsNothing(t *testing.T) {
	for seed := range 5 {
		room := script(seed, 60)
		kept := slices.Clone(room)
		moves := room[:40]
		p, told, _ := pair.Play(may(62), may(63), moves)
		if !slices.Equal(room, kept) {
			t.Error("Play changes what is handed in")
		}
		want, errs := copyPair(p), slices.Clone(told)
		fill(p.ToA)
		if !slices.Equal(p.ToB, want.ToB) {
			t.Error("Play: both ways share memory")
		}
		fill(p.ToB)
		for i := range told {
			told[i] = 77
		}
		pair.Play(may(1), may(2), script(seed+1, 100))
		expectPlay(t, "the same", may(62), may(63), moves, want, errs)
	}
}
