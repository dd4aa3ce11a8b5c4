package line_test

import (
	"testing"

	"farwriter/api"
)

// TestKeyOfEachFunction: what a byte does as the key of a function, at each level, be it a key of a line's end else or one of the mask.
func TestKeyOfEachFunction(t *testing.T) {
	for f := 1; f <= 18; f++ {
		for level := byte(0); level <= 2; level++ {
			for b := range 256 {
				k := with(api.Keys{}, f, level, byte(b))
				one := string([]byte{byte(b)})
				s := "ab cd " + one + "e" + one + one + "\r"
				for _, m := range []api.Mask{marks(""), marks(one), marks("c")} {
					expect(t, api.Editor{Buf: "x y"}, k, m, s, wantTyped(api.Editor{Buf: "x y"}, k, m, s))
				}
			}
		}
	}
}

// doing is what the key of a function does to the line "a b".
type doing struct {
	f   int
	got told
}

// ranked has the functions by whose comes first, where they have one key.
func ranked() []doing {
	return []doing{
		{api.FQuote, told{e: api.Editor{Buf: "a b", Quote: true}}},
		{api.FChar, told{e: api.Editor{Buf: "a "}, echo: gone(1)}},
		{api.FWord, told{e: api.Editor{Buf: "a "}, echo: gone(1)}},
		{api.FLine, told{e: api.Editor{}, echo: gone(3)}},
		{api.FShow, told{e: api.Editor{Buf: "a b"}, echo: "\r\na b"}},
		{api.FSend1, told{lines: []string{"a bK"}, echo: "K"}},
		{api.FSend2, told{lines: []string{"a bK"}, echo: "K"}},
	}
}

// TestFirstCaseApplies: of functions with one key it is the first one that has a level.
func TestFirstCaseApplies(t *testing.T) {
	l := ranked()
	for set := range 1 << len(l) {
		k := api.Keys{}
		want := told{e: api.Editor{Buf: "a bK"}, echo: "K"}
		for i := len(l) - 1; i >= 0; i-- {
			k = with(k, l[i].f, api.LNone, 'K')
			if set>>i&1 == 1 {
				k = with(k, l[i].f, byte(1+i%2), 'K')
				want = l[i].got
			}
		}
		expect(t, api.Editor{Buf: "a b"}, k, marks(""), "K", want)
	}
	k := with(with(api.Keys{}, api.FChar, api.LValue, 'K'), api.FWord, api.LValue, 'K')
	expect(t, api.Editor{Buf: "a b "}, k, marks(""), "K", told{e: api.Editor{Buf: "a b"}, echo: gone(1)})
}

// TestKeysBeatEnds: 13, 10 and what the mask has end no line where they are keys that do something else.
func TestKeysBeatEnds(t *testing.T) {
	for _, b := range []byte{13, 10, '#'} {
		one := string([]byte{b})
		for _, c := range ranked()[:5] {
			for level := byte(1); level <= 2; level++ {
				expect(t, api.Editor{Buf: "a b"}, with(api.Keys{}, c.f, level, b), marks("#\r"), one, c.got)
			}
			sent := told{lines: []string{"a b" + one}, echo: one}
			expect(t, api.Editor{Buf: "a b"}, with(api.Keys{}, c.f, api.LNone, b), marks("#\r"), one, sent)
		}
	}
}

// TestNoKeyAtNoLevel: byte 0 is no key of Keys of zeros, but it may be one.
func TestNoKeyAtNoLevel(t *testing.T) {
	expect(t, api.Editor{Buf: "a"}, api.Keys{}, marks(""), "\x00\x00", told{e: api.Editor{Buf: "a\x00\x00"}, echo: "\x00\x00"})
	expect(t, api.Editor{Buf: "a"}, with(api.Keys{}, api.FChar, api.LValue, 0), marks(""), "\x00\x00", told{echo: gone(1)})
	expect(t, api.Editor{Buf: "a"}, with(api.Keys{}, api.FSend2, api.LFixed, 0), marks(""), "\x00\x00", told{lines: []string{"a\x00", "\x00"}, echo: "\x00\x00"})
	none := usual()
	none.Levels = [19]byte{}
	s := "ab\x7f c\x17\x15\x12\x16\x7f$%d"
	expect(t, api.Editor{}, none, marks(""), s, told{e: api.Editor{Buf: s}, echo: s})
}

// TestOtherFunctions have no matter for a line.
func TestOtherFunctions(t *testing.T) {
	for _, f := range []int{1, 2, 3, 4, 5, 6, 7, 8, 9, 15, 16} {
		for level := byte(0); level <= 2; level++ {
			expect(t, api.Editor{Buf: "a b"}, with(api.Keys{}, f, level, 'K'), marks(""), "KcK", told{e: api.Editor{Buf: "a bKcK"}, echo: "KcK"})
		}
	}
}

// TestMaskOfEachByte: the mask is of bytes, and each of them ends a line alone.
func TestMaskOfEachByte(t *testing.T) {
	var all []byte
	for b := range 256 {
		all = append(all, byte(b))
	}
	for b := range 256 {
		m := marks(string([]byte{byte(b)}))
		expect(t, api.Editor{}, api.Keys{}, m, string(all), wantTyped(api.Editor{}, api.Keys{}, m, string(all)))
		if b != 10 && b != 13 {
			got := typed(api.Editor{}, api.Keys{}, m, string(all))
			if len(got.lines) != 3 || got.echo != string(all) {
				t.Errorf("the mask of %d: %v", b, got)
			}
		}
	}
	every := typed(api.Editor{}, api.Keys{}, marks(string(all)), string(all))
	if len(every.lines) != 256 || every.e.Buf != "" || every.echo != string(all) {
		t.Errorf("the mask of all: %v", every)
	}
}
