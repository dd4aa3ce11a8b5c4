package iac_test

import (
	"math"
	"slices"
	"strings"
	"testing"

	"farwriter/api"
	"farwriter/iac"
)

func TestEscape(t *testing.T) {
	for s, want := range map[string]string{
		"":              "",
		"abc":           "abc",
		"\xff":          "\xff\xff",
		"\xff\xff":      "\xff\xff\xff\xff",
		"a\xffb\xff":    "a\xff\xffb\xff\xff",
		"\x00\xfe\xf0é": "\x00\xfe\xf0é",
	} {
		if got := iac.Escape(s); got != want {
			t.Errorf("Escape(%q) = %q", s, got)
		}
	}
	for b := range 255 {
		if s := string([]byte{byte(b)}); iac.Escape(s) != s {
			t.Errorf("Escape(%q) = %q", s, iac.Escape(s))
		}
	}
}

func expectWrite(t *testing.T, tok api.Tok, want string, errno api.Errno) {
	t.Helper()
	if got, e := iac.Write(tok); got != want || e != errno {
		t.Errorf("Write(%.80q) = %.80q, %d; want %.80q, %d", show(tok), got, e, want, errno)
	}
}

func TestWrite(t *testing.T) {
	expectWrite(t, api.Tok{Kind: api.TData}, "", api.OK)
	expectWrite(t, api.Tok{Kind: api.TData, Data: "a\xff"}, "a\xff\xff", api.OK)
	expectWrite(t, api.Tok{Kind: api.TSub}, "\xff\xfa\x00\xff\xf0", api.OK)
	expectWrite(t, api.Tok{Kind: api.TSub, Opt: 255, Data: "\xff\xf0"}, "\xff\xfa\xff\xff\xff\xf0\xff\xf0", api.OK)
	for b := range 256 {
		one := string([]byte{byte(b)})
		if 240 <= b && b <= 249 {
			expectWrite(t, api.Tok{Kind: api.TCmd, Cmd: b}, "\xff"+one, api.OK)
		} else {
			expectWrite(t, api.Tok{Kind: api.TCmd, Cmd: b}, "", api.ErrArg)
		}
		if 251 <= b && b <= 254 {
			expectWrite(t, api.Tok{Kind: api.TNeg, Cmd: b}, "\xff"+one+"\x00", api.OK)
			expectWrite(t, api.Tok{Kind: api.TNeg, Cmd: b, Opt: 255}, "\xff"+one+"\xff", api.OK)
		} else {
			expectWrite(t, api.Tok{Kind: api.TNeg, Cmd: b}, "", api.ErrArg)
		}
		expectWrite(t, api.Tok{Kind: api.TNeg, Cmd: api.CDo, Opt: b}, "\xff\xfd"+one, api.OK)
		expectWrite(t, api.Tok{Kind: api.TSub, Opt: b, Data: "x"}, "\xff\xfa"+one+"x\xff\xf0", api.OK)
	}
}

func TestWriteLarge(t *testing.T) {
	full := strings.Repeat("\xff", api.MaxSub)
	expectWrite(t, api.Tok{Kind: api.TSub, Opt: 1, Data: full}, "\xff\xfa\x01"+full+full+"\xff\xf0", api.OK)
	expectWrite(t, api.Tok{Kind: api.TSub, Opt: 1, Data: full + "x"}, "", api.ErrLarge)
	expectWrite(t, api.Tok{Kind: api.TSub, Opt: 256, Data: full + "x"}, "", api.ErrArg)
	expectWrite(t, api.Tok{Kind: api.TSub, Cmd: 250, Data: full + "x"}, "", api.ErrArg)
	expectWrite(t, api.Tok{Kind: api.TData, Data: full + "x"}, full+full+"x", api.OK)
}

func TestWriteRefusesFieldsWithoutPlace(t *testing.T) {
	for _, n := range []int{math.MinInt, -1, 1, 240, 251, 256, math.MaxInt} {
		expectWrite(t, api.Tok{Kind: api.TData, Cmd: n, Data: "a"}, "", api.ErrArg)
		expectWrite(t, api.Tok{Kind: api.TData, Opt: n, Data: "a"}, "", api.ErrArg)
		expectWrite(t, api.Tok{Kind: api.TCmd, Cmd: 241, Opt: n}, "", api.ErrArg)
		expectWrite(t, api.Tok{Kind: api.TSub, Cmd: n}, "", api.ErrArg)
	}
	expectWrite(t, api.Tok{Kind: api.TCmd, Cmd: 241, Data: "\x00"}, "", api.ErrArg)
	expectWrite(t, api.Tok{Kind: api.TNeg, Cmd: api.CWill, Data: "\x00"}, "", api.ErrArg)
}

func TestWriteRefusesWhatIsOutOfBounds(t *testing.T) {
	for _, n := range []int{math.MinInt, -1, 256, 256 + 241, 256 + 251, math.MaxInt} {
		expectWrite(t, api.Tok{Kind: api.TCmd, Cmd: n}, "", api.ErrArg)
		expectWrite(t, api.Tok{Kind: api.TNeg, Cmd: n}, "", api.ErrArg)
		expectWrite(t, api.Tok{Kind: api.TNeg, Cmd: api.CDont, Opt: n}, "", api.ErrArg)
		expectWrite(t, api.Tok{Kind: api.TSub, Opt: n}, "", api.ErrArg)
	}
	for _, kind := range []int{math.MinInt, -1, 0, api.TBad, 6, 257, math.MaxInt} {
		expectWrite(t, api.Tok{Kind: kind}, "", api.ErrArg)
		expectWrite(t, api.Tok{Kind: kind, Cmd: 241, Opt: 1, Data: "a"}, "", api.ErrArg)
	}
}

// TestWrittenIsReadAsMeant writes anew what was read, and reads that.
func TestWrittenIsReadAsMeant(t *testing.T) {
	eachShort(5, func(s string) {
		_, toks, _ := iac.Feed(api.Wire{}, s)
		toks = slices.DeleteFunc(toks, func(x api.Tok) bool { return x.Kind == api.TBad })
		toks = iac.Merge(toks)
		var all string
		for _, x := range toks {
			part, e := iac.Write(x)
			if e != api.OK {
				t.Fatalf("%q: Write(%q) tells %d", s, show(x), e)
			}
			all += part
		}
		if w, got, e := iac.Feed(api.Wire{}, all); w != (api.Wire{}) || !slices.Equal(got, toks) || e != api.OK {
			t.Fatalf("%q is written as %q, and read as %q", s, all, show(got))
		}
	})
}
