package iac_test

import (
	"fmt"
	"slices"
	"strings"
	"testing"

	"farwriter/api"
	"farwriter/iac"
)

func show(v any) string { return fmt.Sprintf("%+v", v) }

// expectFeed holds what Feed answers against what it should.
func expectFeed(t *testing.T, w api.Wire, s string, wire api.Wire, toks ...api.Tok) {
	t.Helper()
	gotWire, gotToks, e := iac.Feed(w, s)
	if e != api.OK || gotWire != wire || !slices.Equal(gotToks, toks) {
		t.Errorf("Feed(%.80q, %.40q) = %.80q, %.200q, %d; want %.80q, %.200q", show(w), s, show(gotWire), show(gotToks), e, show(wire), show(toks))
	}
}

// step is what the bytes from first to last do to the wire at.
type step struct {
	at          api.Wire
	first, last int
	wire        func(b int) api.Wire
	tok         func(b int) api.Tok // nil, if they make none
}

func ground(int) api.Wire { return api.Wire{} }

func always(w api.Wire) func(int) api.Wire { return func(int) api.Wire { return w } }

func dataTok(b int) api.Tok { return api.Tok{Kind: api.TData, Data: string([]byte{byte(b)})} }

func badTok(opt int) func(int) api.Tok {
	return func(b int) api.Tok { return api.Tok{Kind: api.TBad, Cmd: b, Opt: opt} }
}

func groundSteps() []step {
	bytes, behind := api.Wire{}, api.Wire{Mode: 1}
	return []step{
		{bytes, 0, 254, ground, dataTok},
		{bytes, 255, 255, always(behind), nil},
		{behind, 0, 239, ground, badTok(0)},
		{behind, 240, 249, ground, func(b int) api.Tok { return api.Tok{Kind: api.TCmd, Cmd: b} }},
		{behind, 250, 250, always(api.Wire{Mode: 3}), nil},
		{behind, 251, 254, func(b int) api.Wire { return api.Wire{Mode: 2, Cmd: b} }, nil},
		{behind, 255, 255, ground, dataTok},
		{api.Wire{Mode: 3}, 0, 255, func(b int) api.Wire { return api.Wire{Mode: 4, Opt: b} }, nil},
	}
}

func negSteps() []step {
	var steps []step
	for cmd := api.CWill; cmd <= api.CDont; cmd++ {
		tok := func(b int) api.Tok { return api.Tok{Kind: api.TNeg, Cmd: cmd, Opt: b} }
		steps = append(steps, step{api.Wire{Mode: 2, Cmd: cmd}, 0, 255, ground, tok})
	}
	return steps
}

// wordSteps of an option whose words so far are buf, with grown telling how a byte more changes these words.
func wordSteps(opt int, buf string, over bool, grown func(b int) api.Wire) []step {
	words := api.Wire{Mode: 4, Opt: opt, Buf: buf, Over: over}
	behind := words
	behind.Mode = 5
	end := api.Tok{Kind: api.TSub, Opt: opt, Data: buf}
	if over {
		end = api.Tok{Kind: api.TBad, Cmd: api.CSb, Opt: opt}
	}
	return []step{
		{words, 0, 254, grown, nil},
		{words, 255, 255, always(behind), nil},
		{behind, 255, 255, grown, nil},
		{behind, 240, 240, ground, func(int) api.Tok { return end }},
		{behind, 0, 239, ground, badTok(opt)},
		{behind, 241, 254, ground, badTok(opt)},
	}
}

func allSteps() []step {
	steps := append(groundSteps(), negSteps()...)
	for _, opt := range []int{0, 24, 255} {
		tooMany := api.Wire{Mode: 4, Opt: opt, Over: true}
		for _, n := range []int{0, 1, api.MaxSub - 1} {
			buf := strings.Repeat("\xff", n)
			grown := func(b int) api.Wire {
				return api.Wire{Mode: 4, Opt: opt, Buf: buf + string([]byte{byte(b)})}
			}
			steps = append(steps, wordSteps(opt, buf, false, grown)...)
		}
		steps = append(steps, wordSteps(opt, strings.Repeat("x", api.MaxSub), false, always(tooMany))...)
		steps = append(steps, wordSteps(opt, "", true, always(tooMany))...)
	}
	return steps
}

func TestFeedEachByteInEachMode(t *testing.T) {
	seen := map[api.Wire]int{}
	for _, s := range allSteps() {
		for b := s.first; b <= s.last; b++ {
			seen[s.at]++
			var toks []api.Tok
			if s.tok != nil {
				toks = []api.Tok{s.tok(b)}
			}
			expectFeed(t, s.at, string([]byte{byte(b)}), s.wire(b), toks...)
		}
	}
	for w, n := range seen {
		if n != 256 {
			t.Errorf("%d bytes were tried at %.80q", n, show(w))
		}
	}
}

func TestFeedNothing(t *testing.T) {
	for _, w := range goodWires() {
		expectFeed(t, w, "", w)
	}
}

func TestFeedRefusesBadWires(t *testing.T) {
	for _, w := range badWires() {
		for _, s := range []string{"", "a", "\xff", "\xff\xf0", "\xff\xfa\x01"} {
			if got, toks, e := iac.Feed(w, s); e != api.ErrForm || got != w || len(toks) != 0 {
				t.Errorf("Feed(%.80q, %q) = %.80q, %q, %d", show(w), s, show(got), show(toks), e)
			}
		}
	}
}

func TestFeedDataIsOneToken(t *testing.T) {
	data := func(s string) api.Tok { return api.Tok{Kind: api.TData, Data: s} }
	expectFeed(t, api.Wire{}, "a\xff\xff\xff\xfb\x01", api.Wire{}, data("a\xff"), api.Tok{Kind: api.TNeg, Cmd: api.CWill, Opt: 1})
	expectFeed(t, api.Wire{}, "\xff\xff\xff\xff", api.Wire{}, data("\xff\xff"))
	expectFeed(t, api.Wire{Mode: 1}, "\xffab\xff", api.Wire{Mode: 1}, data("\xffab"))
	expectFeed(t, api.Wire{}, "a\xff\xf9b\xff\xf1\xff\x00c", api.Wire{},
		data("a"), api.Tok{Kind: api.TCmd, Cmd: 249}, data("b"), api.Tok{Kind: api.TCmd, Cmd: 241}, api.Tok{Kind: api.TBad}, data("c"))
	expectFeed(t, api.Wire{}, "a\xff\xfa\x18\xff\xf0b\xff\xfa\x18q", api.Wire{Mode: 4, Opt: 24, Buf: "q"},
		data("a"), api.Tok{Kind: api.TSub, Opt: 24}, data("b"))
}

func TestFeedForgetsWordsThatEnded(t *testing.T) {
	expectFeed(t, api.Wire{}, "\xff\xfa\x01long\xff\xf0\xff\xfa\x02s\xff\xf0\xff\xfa\x03gone\xff\xfb\xff\xfa\x04x", api.Wire{Mode: 4, Opt: 4, Buf: "x"},
		api.Tok{Kind: api.TSub, Opt: 1, Data: "long"}, api.Tok{Kind: api.TSub, Opt: 2, Data: "s"}, api.Tok{Kind: api.TBad, Cmd: 251, Opt: 3})
}

func TestFeedTooManyWords(t *testing.T) {
	begin, end := "\xff\xfa\x05", "\xff\xf0"
	sub := func(s string) api.Tok { return api.Tok{Kind: api.TSub, Opt: 5, Data: s} }
	bad := api.Tok{Kind: api.TBad, Cmd: api.CSb, Opt: 5}
	full := strings.Repeat("x", api.MaxSub)
	expectFeed(t, api.Wire{}, begin+full+end, api.Wire{}, sub(full))
	expectFeed(t, api.Wire{}, begin+full+"y"+end, api.Wire{}, bad)
	expectFeed(t, api.Wire{}, begin+strings.Repeat("\xff\xff", api.MaxSub)+end, api.Wire{}, sub(strings.Repeat("\xff", api.MaxSub)))
	expectFeed(t, api.Wire{}, begin+full+"\xff\xff"+end, api.Wire{}, bad)
	expectFeed(t, api.Wire{}, begin+full+full+full+end, api.Wire{}, bad)
	expectFeed(t, api.Wire{}, begin+full+"y\xff\xf1"+begin+"z"+end, api.Wire{}, api.Tok{Kind: api.TBad, Cmd: 241, Opt: 5}, sub("z"))
	expectFeed(t, api.Wire{}, begin+full+"y"+end+begin+"z"+end+"a", api.Wire{}, bad, sub("z"), api.Tok{Kind: api.TData, Data: "a"})
}

// eachShort calls f with each text of at most n of the bytes that matter to a wire.
func eachShort(n int, f func(s string)) {
	var grow func(s []byte)
	grow = func(s []byte) {
		f(string(s))
		if len(s) == n {
			return
		}
		for _, b := range []byte{0, 239, 240, 249, 250, 251, 254, 255} {
			grow(append(s, b))
		}
	}
	grow(nil)
}

func TestFeedInPieces(t *testing.T) {
	starts := []api.Wire{{}, {Mode: 5, Opt: 255, Buf: strings.Repeat("x", api.MaxSub-1)}}
	eachShort(5, func(s string) {
		for _, start := range starts {
			whole, toks, _ := iac.Feed(start, s)
			toks = iac.Merge(toks)
			for cut := range len(s) {
				mid, front, _ := iac.Feed(start, s[:cut])
				end, back, e := iac.Feed(mid, s[cut:])
				if e != api.OK || end != whole || !slices.Equal(iac.Merge(append(front, back...)), toks) {
					t.Fatalf("%q, cut at %d: %.80q, not %.80q", s, cut, show(end), show(whole))
				}
			}
		}
	})
}

func TestFeedByteByByte(t *testing.T) {
	s := "ab\xff\xffc\xff\xf1\xff\xfd\x03\xff\xfa\x18\x01\xff\xff\xff\xf0\xff\x07x\xff\xfa\x05" + strings.Repeat("\xff\xff", api.MaxSub+1) + "\xff\xf0z\xff\xfa\xff"
	whole, toks, _ := iac.Feed(api.Wire{}, s)
	var w api.Wire
	var got []api.Tok
	for i := range len(s) {
		var l []api.Tok
		w, l, _ = iac.Feed(w, s[i:i+1])
		got = append(got, l...)
		if e := iac.Check(w); e != api.OK {
			t.Fatalf("behind byte %d: Check tells %d", i, e)
		}
	}
	if w != whole || !slices.Equal(iac.Merge(got), toks) {
		t.Errorf("%.80q, %q; want %.80q, %q", show(w), show(got), show(whole), show(toks))
	}
}
