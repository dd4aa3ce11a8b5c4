package line_test

import (
	"strings"
	"testing"

	"farwriter/api"
)

func xs(n int) string { return strings.Repeat("x", n) }

// TestFullLineIsSent once, by whatever byte it was filled.
func TestFullLineIsSent(t *testing.T) {
	for _, last := range []string{"a", "\r", "\n", "$", "%", "#", "\x00", " "} {
		full := xs(1023) + last
		expect(t, api.Editor{Buf: xs(1023)}, usual(), marks("#"), last, told{lines: []string{full}, echo: last})
		expect(t, api.Editor{}, usual(), marks("#"), full, told{lines: []string{full}, echo: full})
		after := told{e: api.Editor{Buf: "b"}, lines: []string{full}, echo: last + "b"}
		expect(t, api.Editor{Buf: xs(1023)}, usual(), marks("#"), last+"b", after)
		twice := told{lines: []string{full, "\r"}, echo: last + "\r"}
		expect(t, api.Editor{Buf: xs(1023)}, usual(), marks("#"), last+"\r", twice)
	}
	for _, last := range []string{"\x16", "\x7f", "\r", "$", "#", "a"} {
		quoted := told{lines: []string{xs(1023) + last}, echo: last}
		expect(t, api.Editor{Buf: xs(1023)}, usual(), marks("#"), "\x16"+last, quoted)
		expect(t, api.Editor{Buf: xs(1023), Quote: true}, usual(), marks("#"), last, quoted)
	}
}

// TestAlmostFullLine isn't sent by itself, and its keys do what they do of any.
func TestAlmostFullLine(t *testing.T) {
	e := api.Editor{Buf: xs(1022)}
	expect(t, e, usual(), marks(""), "a", told{e: api.Editor{Buf: xs(1022) + "a"}, echo: "a"})
	expect(t, e, usual(), marks(""), "\r", told{lines: []string{xs(1022) + "\r"}, echo: "\r"})
	expect(t, e, usual(), marks(""), "a\x7fb", told{e: api.Editor{Buf: xs(1022) + "b"}, echo: "a" + gone(1) + "b"})
	e = api.Editor{Buf: xs(1023)}
	expect(t, e, usual(), marks(""), "", told{e: e})
	expect(t, e, usual(), marks(""), "\x7fb", told{e: api.Editor{Buf: xs(1022) + "b"}, echo: gone(1) + "b"})
	expect(t, e, usual(), marks(""), "\x15", told{echo: gone(1023)})
	expect(t, e, usual(), marks(""), "\x17", told{echo: gone(1023)})
	expect(t, e, usual(), marks(""), "\x12\x12", told{e: e, echo: "\r\n" + xs(1023) + "\r\n" + xs(1023)})
	expect(t, e, usual(), marks(""), "\x16", told{e: api.Editor{Buf: xs(1023), Quote: true}})
}

func TestManyFullLines(t *testing.T) {
	for _, n := range []int{1023, 1024, 1025, 2047, 2048, 2049, 3072, 4095, 4096} {
		want := told{e: api.Editor{Buf: xs(n % 1024)}, echo: xs(n)}
		for range n / 1024 {
			want.lines = append(want.lines, xs(1024))
		}
		expect(t, api.Editor{}, usual(), marks(""), xs(n), want)
	}
	expect(t, api.Editor{Buf: xs(1023)}, usual(), marks(""), xs(4096), told{e: api.Editor{Buf: xs(1023)}, lines: []string{xs(1024), xs(1024), xs(1024), xs(1024)}, echo: xs(4096)})
}

// TestMostTyped: 4096 bytes may be typed, whatever they make.
func TestMostTyped(t *testing.T) {
	var ends []string
	for range 4096 {
		ends = append(ends, "\r")
	}
	expect(t, api.Editor{}, usual(), marks(""), strings.Repeat("\r", 4096), told{lines: ends, echo: strings.Repeat("\r", 4096)})
	e := api.Editor{Buf: xs(1023)}
	expect(t, e, usual(), marks(""), strings.Repeat("\x12", 4096), told{e: e, echo: strings.Repeat("\r\n"+xs(1023), 4096)})
	expect(t, e, usual(), marks(""), strings.Repeat("\x7f", 4096), told{echo: gone(1023)})
}

// TestRefuses: Buf is looked at first, then the keys, then how much is typed; the Editor is told as it was.
func TestRefuses(t *testing.T) {
	var bad []api.Keys
	for f := 1; f <= 18; f++ {
		bad = append(bad, with(usual(), f, 3, 0), with(api.Keys{}, f, 255, 'a'))
	}
	bad = append(bad, with(usual(), 0, 1, 0), with(usual(), 0, 0, 1), with(usual(), 0, 255, 255))
	for _, quote := range []bool{false, true} {
		for _, s := range []string{"", "a", "\r", "\x15", xs(4096), xs(4097), xs(100000)} {
			for _, n := range []int{1024, 1025, 4096, 65536} {
				e := api.Editor{Buf: xs(n), Quote: quote}
				expect(t, e, usual(), marks("x"), s, told{e: e, err: api.ErrLarge})
				expect(t, e, bad[0], marks("x"), s, told{e: e, err: api.ErrLarge})
			}
			for _, n := range []int{0, 1, 1023} {
				e := api.Editor{Buf: xs(n), Quote: quote}
				for _, k := range bad {
					expect(t, e, k, marks("x"), s, told{e: e, err: api.ErrForm})
				}
			}
		}
		for _, n := range []int{4097, 4098, 8192, 65536, 65536 + 1, 1 << 20} {
			for _, e := range []api.Editor{{Quote: quote}, {Buf: "ab", Quote: quote}, {Buf: xs(1023), Quote: quote}} {
				expect(t, e, usual(), marks(""), xs(n), told{e: e, err: api.ErrLarge})
				expect(t, e, usual(), marks(""), strings.Repeat("\x15", n), told{e: e, err: api.ErrLarge})
			}
		}
	}
}
