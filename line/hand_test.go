package line_test

import (
	"strings"
	"testing"

	"farwriter/api"
)

// gone is what is shown where so many bytes go.
func gone(n int) string { return strings.Repeat("\x08\x20\x08", n) }

// spoken is what is typed in one go, and what comes of it.
type spoken struct {
	buf, typed string
	left       string
	lines      []string
	echo       string
}

func expectSpoken(t *testing.T, k api.Keys, m api.Mask, l []spoken) {
	t.Helper()
	for _, c := range l {
		expect(t, api.Editor{Buf: c.buf}, k, m, c.typed, told{e: api.Editor{Buf: c.left}, lines: c.lines, echo: c.echo})
	}
}

func TestPut(t *testing.T) {
	expectSpoken(t, usual(), marks(""), []spoken{
		{"", "", "", nil, ""},
		{"left", "", "left", nil, ""},
		{"", "a", "a", nil, "a"},
		{"ab", "cd", "abcd", nil, "cd"},
		{"", "\x00\x01\xff\x80\xe2\x82\xac", "\x00\x01\xff\x80\xe2\x82\xac", nil, "\x00\x01\xff\x80\xe2\x82\xac"},
		{"", "\b\t\x1b[A", "\b\t\x1b[A", nil, "\b\t\x1b[A"},
	})
}

func TestEraseSign(t *testing.T) {
	expectSpoken(t, usual(), marks(""), []spoken{
		{"", "\x7f", "", nil, ""},
		{"", "\x7f\x7f\x7fa", "a", nil, "a"},
		{"abc", "\x7f", "ab", nil, gone(1)},
		{"ab", "\x7f\x7f\x7f", "", nil, gone(2)},
		{"", "lx\x7fs\r", "", []string{"ls\r"}, "lx" + gone(1) + "s\r"},
		{"\u20ac", "\x7f", "\xe2\x82", nil, gone(1)},
		{"a\r", "\x7f", "a", nil, gone(1)},
		{"", "a\r\x7f", "", []string{"a\r"}, "a\r"},
	})
}

func TestEraseWord(t *testing.T) {
	expectSpoken(t, usual(), marks(""), []spoken{
		{"", "\x17", "", nil, ""},
		{" ", "\x17", "", nil, gone(1)},
		{"   ", "\x17", "", nil, gone(3)},
		{"word", "\x17", "", nil, gone(4)},
		{"word ", "\x17", "", nil, gone(5)},
		{"  word", "\x17", "  ", nil, gone(4)},
		{"one two", "\x17", "one ", nil, gone(3)},
		{"one two", "\x17\x17", "", nil, gone(7)},
		{"one  two   ", "\x17", "one  ", nil, gone(6)},
		{"one  two   ", "\x17\x17\x17", "", nil, gone(11)},
		{"one\ttwo", "\x17", "", nil, gone(7)},
		{"one\u00a0two", "\x17", "", nil, gone(8)},
		{"one \xff\x00\t\r\n", "\x17", "one ", nil, gone(5)},
		{"one two\t", "\x17", "one ", nil, gone(4)},
		{"ls  foo  ", "\x17x\r", "", []string{"ls  x\r"}, gone(5) + "x\r"},
	})
}

func TestEraseLine(t *testing.T) {
	expectSpoken(t, usual(), marks(""), []spoken{
		{"", "\x15", "", nil, ""},
		{"a", "\x15", "", nil, gone(1)},
		{"one two  ", "\x15", "", nil, gone(9)},
		{"one", "\x15\x15b", "b", nil, gone(3) + "b"},
		{"", "a\rbc\x15", "", []string{"a\r"}, "a\rbc" + gone(2)},
	})
}

func TestShow(t *testing.T) {
	expectSpoken(t, usual(), marks(""), []spoken{
		{"", "\x12", "", nil, "\r\n"},
		{"one", "\x12", "one", nil, "\r\none"},
		{"one", "\x12\x12", "one", nil, "\r\none\r\none"},
		{"", "ab\x7fc\x12d", "acd", nil, "ab" + gone(1) + "c\r\nacd"},
		{"", "a\r\x12b", "b", []string{"a\r"}, "a\r\r\nb"},
		{"a\r\nb", "\x12", "a\r\nb", nil, "\r\na\r\nb"},
	})
}

func TestQuote(t *testing.T) {
	expectSpoken(t, usual(), marks("#"), []spoken{
		{"a", "\x16\x7f", "a\x7f", nil, "\x7f"},
		{"a", "\x16\x17", "a\x17", nil, "\x17"},
		{"a", "\x16\x15", "a\x15", nil, "\x15"},
		{"a", "\x16\x12", "a\x12", nil, "\x12"},
		{"a", "\x16\x16", "a\x16", nil, "\x16"},
		{"a", "\x16\r", "a\r", nil, "\r"},
		{"a", "\x16\n", "a\n", nil, "\n"},
		{"a", "\x16$\x16%", "a$%", nil, "$%"},
		{"a", "\x16#", "a#", nil, "#"},
		{"a", "\x16b", "ab", nil, "b"},
		{"a", "\x16\x7f\x7f", "a", nil, "\x7f" + gone(1)},
		{"a", "\x16\x16\x7f", "a", nil, "\x16" + gone(1)},
		{"", "\x16\r\x16\r\r", "", []string{"\r\r\r"}, "\r\r\r"},
	})
}

// TestQuoteWaits for the next byte, also where that comes with the next piece.
func TestQuoteWaits(t *testing.T) {
	for _, c := range []struct {
		typed string
		echo  string
	}{{"\x16", ""}, {"\x16\x16\x16", "\x16"}, {"b\x16", "b"}} {
		want := told{e: api.Editor{Buf: "a" + c.echo, Quote: true}, echo: c.echo}
		expect(t, api.Editor{Buf: "a"}, usual(), marks(""), c.typed, want)
	}
	expect(t, api.Editor{Buf: "a\r", Quote: true}, usual(), marks(""), "", told{e: api.Editor{Buf: "a\r", Quote: true}})
	for b := range 256 {
		one := string([]byte{byte(b)})
		for _, k := range []api.Keys{{}, usual()} {
			for _, m := range []api.Mask{marks(""), marks(one)} {
				expect(t, api.Editor{Buf: "a", Quote: true}, k, m, one, told{e: api.Editor{Buf: "a" + one}, echo: one})
			}
		}
	}
	expect(t, api.Editor{Quote: true}, usual(), marks(""), "\r\r", told{lines: []string{"\r\r"}, echo: "\r\r"})
}

func TestSend(t *testing.T) {
	expectSpoken(t, usual(), marks("#\x00\xff"), []spoken{
		{"", "\r", "", []string{"\r"}, "\r"},
		{"", "\n", "", []string{"\n"}, "\n"},
		{"", "$", "", []string{"$"}, "$"},
		{"", "%", "", []string{"%"}, "%"},
		{"", "#", "", []string{"#"}, "#"},
		{"", "\x00\xff", "", []string{"\x00", "\xff"}, "\x00\xff"},
		{"one", "\r", "", []string{"one\r"}, "\r"},
		{"one", "two\r\nthree", "three", []string{"onetwo\r", "\n"}, "two\r\nthree"},
		{"", "a$b%c#d\re\nf\x00g\xffh", "h", []string{"a$", "b%", "c#", "d\r", "e\n", "f\x00", "g\xff"}, "a$b%c#d\re\nf\x00g\xffh"},
	})
	expectSpoken(t, api.Keys{}, marks(""), []spoken{
		{"", "a$b%c#d\re\nf", "f", []string{"a$b%c#d\r", "e\n"}, "a$b%c#d\re\nf"},
	})
}
