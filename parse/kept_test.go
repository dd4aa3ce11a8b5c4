package parse_test

import (
	"slices"
	"testing"

	"farwriter/api"
	"farwriter/parse"
)

// TestRunesAreNotChanged, nor is the room behind them looked at.
func TestRunesAreNotChanged(t *testing.T) {
	all := longRow()
	for _, n := range []int{0, 1, 5, 6, 20, 50, len(all) - 1} {
		room := slices.Clone(all)
		for i := n; i < len(room); i++ {
			room[i] = 24
		}
		kept := slices.Clone(room)
		for range 2 {
			expectAsWanted(t, api.Parser{}, room[:n])
		}
		if !slices.Equal(room, kept) {
			t.Errorf("changed: %v", room)
		}
	}
}

// TestActsAreNotChanged, nor is the room behind their numbers looked at.
func TestActsAreNotChanged(t *testing.T) {
	room := []int{1, 2, -5, 99999}
	kept := slices.Clone(room)
	expectWrite(t, api.Act{Kind: api.ACsi, Code: 'm', Args: room[:2]}, "\x1b[1;2m")
	expectWrite(t, api.Act{Kind: api.APrint, Code: 'm', Args: room[:0]}, "m")
	expectNoWrite(t, api.Act{Kind: api.ACsi, Code: 'm', Args: room[:0]})
	expectNoWrite(t, api.Act{Kind: api.ACsi, Code: 'm', Args: room[:3]})
	if !slices.Equal(room, kept) {
		t.Errorf("changed: %v", room)
	}
}

// spoil writes over a list, and over the room behind it.
func spoil(l []int) {
	l = l[:cap(l)]
	for i := range l {
		l[i] = -99
	}
}

// TestActsShareNothing: it is no matter what is written over the numbers of one, or over what was handed in.
func TestActsShareNothing(t *testing.T) {
	runes := runesOf("\x1b[1;2;3m\x1b[4;5H\x1b[m\x1b[7m\x1b[1;2;3m")
	_, acts, _ := parse.Feed(api.Parser{}, runes)
	want := []api.Act{csi1(0, "", 'm', 1, 2, 3), csi1(0, "", 'H', 4, 5), csi1(0, "", 'm', -1), csi1(0, "", 'm', 7), csi1(0, "", 'm', 1, 2, 3)}
	fresh := slices.Clone(runes)
	spoil(runes)
	if !sameActs(acts, want) {
		t.Errorf("it hangs on what was handed in: %s", show(acts))
	}
	for i := range acts {
		spoil(acts[i].Args)
		for j := i + 1; j < len(acts); j++ {
			if !sameAct(acts[j], want[j]) {
				t.Errorf("act %d shares with %d: %s", j, i, show(acts[j]))
			}
		}
	}
	room := acts[:cap(acts)]
	for i := range room {
		room[i] = api.Act{Kind: 99}
	}
	expectFeed(t, api.Parser{}, fresh, api.Parser{}, want)
}

// TestNothingIsKept from call to call: neither what was told nor a parser under way.
func TestNothingIsKept(t *testing.T) {
	a := csi1('?', "!", 'm', 1, 2)
	first, _ := parse.Write(a)
	spoil(first)
	parse.Feed(api.Parser{}, runesOf("\x1b[?1;2"))
	parse.Feed(api.Parser{}, runesOf("\x1b]0;under way"))
	expectWrite(t, a, "\x1b[?1;2!m")
	spoil(a.Args)
	expectWrite(t, csi1('?', "!", 'm', 1, 2), "\x1b[?1;2!m")
	for _, p := range goodParsers() {
		runes := runesOf("\x1b[1;2m\x1b]x\ay")
		p1, acts1, _ := parse.Feed(p, runes)
		parse.Feed(api.Parser{State: api.SOsc, Text: "other"}, runesOf("z\a\x1b[9m"))
		p2, acts2, _ := parse.Feed(p, runes)
		if p1 != p2 || !sameActs(acts1, acts2) {
			t.Errorf("from %s: %s, then %s", show(p), show(acts1), show(acts2))
		}
	}
}
