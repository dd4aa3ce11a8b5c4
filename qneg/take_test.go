package qneg_test

import (
	"math"
	"testing"

	"farwriter/api"
	"farwriter/qneg"
)

// diff tells where two Negs differ, as they are too long to be shown whole.
func diff(got, want api.Neg) []int {
	var opts []int
	for opt := range 256 {
		if got.Us[opt] != want.Us[opt] || got.Him[opt] != want.Him[opt] {
			opts = append(opts, opt)
		}
	}
	return opts
}

func expectTake(t *testing.T, n api.Neg, tok api.Tok, want api.Neg, said string, err api.Errno) {
	t.Helper()
	got, s, e := qneg.Take(n, tok)
	if s != said || e != err {
		t.Fatalf("Take of %#v says %x, %d; want %x, %d", tok, s, e, said, err)
	}
	if got != want {
		t.Fatalf("Take of %#v: sets %v, %v, want %v, %v; states that are wrong: %v", tok, got.UsOk, got.HimOk, want.UsOk, want.HimOk, diff(got, want))
	}
}

func saying(cmd, opt int) api.Tok { return api.Tok{Kind: api.TNeg, Cmd: cmd, Opt: opt} }

// taken is a command in one state, and what is behind it.
type taken struct {
	cmd    int
	before uint8
	may    bool
	after  uint8
	said   string
}

func TestTakeByHand(t *testing.T) {
	for _, c := range []taken{
		{api.CWill, api.QNo, true, api.QYes, "\xff\xfd\x27"},
		{api.CWill, api.QNo, false, api.QNo, "\xff\xfe\x27"},
		{api.CWill, api.QYes, false, api.QYes, ""},
		{api.CWill, api.QWantYes, false, api.QYes, ""},
		{api.CWill, api.QWantYesOpp, true, api.QWantNo, "\xff\xfe\x27"},
		{api.CWont, api.QYes, true, api.QNo, "\xff\xfe\x27"},
		{api.CWont, api.QWantNoOpp, true, api.QWantYes, "\xff\xfd\x27"},
		{api.CWont, api.QNo, true, api.QNo, ""},
		{api.CDo, api.QNo, true, api.QYes, "\xff\xfb\x27"},
		{api.CDo, api.QNo, false, api.QNo, "\xff\xfc\x27"},
		{api.CDo, api.QWantNo, true, api.QNo, ""},
		{api.CDo, api.QWantNoOpp, false, api.QYes, ""},
		{api.CDo, api.QWantYesOpp, true, api.QWantNo, "\xff\xfc\x27"},
		{api.CDont, api.QYes, true, api.QNo, "\xff\xfc\x27"},
		{api.CDont, api.QWantNoOpp, true, api.QWantYes, "\xff\xfb\x27"},
		{api.CDont, api.QWantYes, true, api.QNo, ""},
	} {
		us := c.cmd == api.CDo || c.cmd == api.CDont
		before := mixed()
		setState(&before, us, 39, c.before)
		setMay(&before, us, 39, c.may)
		setMay(&before, !us, 39, !c.may)
		after := before
		setState(&after, us, 39, c.after)
		expectTake(t, before, saying(c.cmd, 39), after, c.said, api.OK)
	}
}

// said is what an end says of an option, by P5.4's words; its commands are by their numbers.
func said(us bool, say, opt int) string {
	cmds := map[bool][3]byte{false: {0, 253, 254}, true: {0, 251, 252}}
	if say == 0 {
		return ""
	}
	return string([]byte{255, cmds[us][say], byte(opt)})
}

// TestTakeOfEachOption has one option in a set, or all but it, so that no other bit can stand for it.
func TestTakeOfEachOption(t *testing.T) {
	for cmd := 251; cmd <= 254; cmd++ {
		us, on := cmd >= 253, cmd == 251 || cmd == 253
		for opt := range 256 {
			for state := range 6 {
				for _, may := range bools() {
					before := mixed()
					for other := range 256 {
						setMay(&before, us, other, (other == opt) == may)
						setMay(&before, !us, other, (other == opt) != may)
					}
					setState(&before, us, opt, uint8(state))
					h := wantHeard(state, on, may)
					after := before
					setState(&after, us, opt, uint8(h.state))
					expectTake(t, before, saying(cmd, opt), after, said(us, h.say, opt), api.OK)
				}
			}
		}
	}
}

// noSayings has tokens of which each is wrong in one field, some of them with the low bits of a right one.
func noSayings() []api.Tok {
	l := []api.Tok{{}, {Kind: api.TCmd, Cmd: 241}, {Kind: api.TData, Data: "a"}, {Kind: api.TSub, Opt: 1, Data: "a"}, {Kind: api.TNeg}}
	for _, kind := range []int{math.MinInt, -256 + 3, -3, 0, api.TData, api.TCmd, api.TSub, api.TBad, 6, 256 + 3, 1<<32 + 3, math.MaxInt} {
		l = append(l, api.Tok{Kind: kind, Cmd: api.CDo, Opt: 3})
	}
	for _, cmd := range []int{math.MinInt, -5, -1, 0, api.CSe, api.CSb, api.CIac, 256 + 251, 65536 + 253, 1<<32 + 254, math.MaxInt} {
		l = append(l, saying(cmd, 3))
	}
	for cmd := api.CWill; cmd <= api.CDont; cmd++ {
		for _, opt := range []int{math.MinInt, -256, -255, -64, -1, 256, 257, 512, 65536, 1<<32 + 3, math.MaxInt} {
			l = append(l, saying(cmd, opt))
		}
		for _, data := range []string{"a", "\x00", "\xff\xfb\x03"} {
			l = append(l, api.Tok{Kind: api.TNeg, Cmd: cmd, Opt: 3, Data: data})
		}
	}
	return l
}

func TestTakeOfNoSaying(t *testing.T) {
	for _, n := range []api.Neg{{}, mixed()} {
		for _, tok := range noSayings() {
			expectTake(t, n, tok, n, "", api.ErrArg)
		}
	}
}

// TestTakes: a token is one that Take takes, or Take tells an error of it.
func TestTakes(t *testing.T) {
	for cmd := api.CWill; cmd <= api.CDont; cmd++ {
		for opt := range 256 {
			if !qneg.Takes(saying(cmd, opt)) {
				t.Errorf("Takes(%#v) = false", saying(cmd, opt))
			}
		}
	}
	for _, tok := range noSayings() {
		if qneg.Takes(tok) {
			t.Errorf("Takes(%#v) = true", tok)
		}
	}
}

// noNegs has Negs with one state that is none: of the option that is spoken of, or of another one.
func noNegs() []api.Neg {
	var l []api.Neg
	for _, us := range bools() {
		for _, opt := range []int{0, 3, 255} {
			for _, state := range []uint8{6, 64, 128, 255} {
				n := mixed()
				setState(&n, us, opt, state)
				l = append(l, n)
			}
		}
	}
	return l
}

// TestTakeOfNoNeg: Check's error is told ahead of the token's.
func TestTakeOfNoNeg(t *testing.T) {
	for _, n := range noNegs() {
		for cmd := api.CWill; cmd <= api.CDont; cmd++ {
			expectTake(t, n, saying(cmd, 3), n, "", api.ErrForm)
		}
		for _, tok := range noSayings() {
			expectTake(t, n, tok, n, "", api.ErrForm)
		}
	}
}

// TestTakeLeavesWhatIsHandedIn: the Neg that was handed in is as it was, and the same call answers the same.
func TestTakeLeavesWhatIsHandedIn(t *testing.T) {
	n := api.Neg{UsOk: [4]uint64{1 << 24}}
	kept := n
	after := n
	after.Us[24] = api.QYes
	for range 2 {
		expectTake(t, n, saying(api.CDo, 24), after, "\xff\xfb\x18", api.OK)
		if n != kept {
			t.Error("Take changes what is handed in")
		}
	}
}
