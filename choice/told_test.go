package choice_test

import (
	"strings"
	"testing"

	"farwriter/api"
	"farwriter/choice"
)

func expectTold(t *testing.T, names []string, data, want string, err api.Errno) {
	t.Helper()
	if s, e := choice.Told(names, data); s != want || e != err {
		t.Errorf("Told(%.200q, %.100q) = %q, %d; want %q, %d", names, data, s, e, want, err)
	}
}

func TestTold(t *testing.T) {
	names := []string{"ASCII", "Utf-8", "UTF-8", "KOI8"}
	for _, c := range []struct {
		data, want string
		err        api.Errno
	}{
		{"\x02ASCII", "ASCII", api.OK},
		{"\x02ascii", "ASCII", api.OK},
		{"\x02UTF-8", "Utf-8", api.OK},
		{"\x02utf-8", "Utf-8", api.OK},
		{"\x02kOi8", "KOI8", api.OK},
		{"\x02KOI", "", api.ErrNone},
		{"\x02KOI88", "", api.ErrNone},
		{"\x02OI8", "", api.ErrNone},
		{"\x02KOI8 ", "", api.ErrNone},
		{"\x02KOI8\x00", "", api.ErrNone},
		{"\x02ASCII;KOI8", "", api.ErrNone},
		{"\x02;KOI8", "", api.ErrNone},
		{"\x02\x02KOI8", "", api.ErrNone},
		{"\x02\x03", "", api.ErrNone},
		{"\x02", "", api.ErrNone},
		{"\x03", "", api.ErrNone},
	} {
		expectTold(t, names, c.data, c.want, c.err)
	}
}

func TestToldEachOfMany(t *testing.T) {
	names := pages(100)
	for _, name := range names {
		expectTold(t, names, "\x02"+strings.ToLower(name), name, api.OK)
	}
	expectTold(t, names, "\x02ISO8859:101", "", api.ErrNone)
}

func TestToldOfNoNames(t *testing.T) {
	for _, names := range [][]string{nil, {}} {
		expectTold(t, names, "\x03", "", api.ErrNone)
		expectTold(t, names, "\x02", "", api.ErrNone)
		expectTold(t, names, "\x02UTF-8", "", api.ErrNone)
		expectTold(t, names, "", "", api.ErrForm)
	}
}

func TestToldRefusesForms(t *testing.T) {
	names := []string{"UTF-8", "", "\x03"}
	for b := range 256 {
		s := string([]byte{byte(b)})
		if b != 2 && b != 3 {
			expectTold(t, names, s, "", api.ErrForm)
		}
		if b != 2 {
			expectTold(t, names, s+"UTF-8", "", api.ErrForm)
			expectTold(t, names, s+"\x03", "", api.ErrForm)
			expectTold(t, names, s+"\x02UTF-8", "", api.ErrForm)
		}
		expectTold(t, names, "\x03"+s, "", api.ErrForm)
	}
	expectTold(t, names, "", "", api.ErrForm)
	expectTold(t, names, "UTF-8", "", api.ErrForm)
	expectTold(t, names, strings.Repeat("\x03", 100000), "", api.ErrForm)
}

// TestToldOfWhateverStandsThere: likeness is of the bytes, for neither the names nor what stands behind the 2 is checked; bytes that are no letters from a to z stay as they are.
func TestToldOfWhateverStandsThere(t *testing.T) {
	for _, text := range noNames() {
		expectTold(t, []string{"no", text}, "\x02"+text, text, api.OK)
	}
	expectTold(t, []string{"k", "S", "\xc3\xa9", "\xfe"}, "\x02\u212a", "", api.ErrNone)
	expectTold(t, []string{"k", "S", "\xc3\xa9", "\xfe"}, "\x02\u017f", "", api.ErrNone)
	expectTold(t, []string{"k", "S", "\xc3\xa9", "\xfe"}, "\x02\xc3\x89", "", api.ErrNone)
	expectTold(t, []string{"k", "S", "\xc3\xa9", "\xfe"}, "\x02\xff", "", api.ErrNone)
	expectTold(t, []string{"k", "S", "\xc3\xa9", "\xfe"}, "\x02\xde", "", api.ErrNone)
	expectTold(t, []string{"@[`{"}, "\x02`{@[", "", api.ErrNone)
	expectTold(t, []string{"AZaz"}, "\x02azAZ", "AZaz", api.OK)
}

// TestAskIsAnsweredAndTold: what is asked for, answered and told is one choice, at both ends by their own names.
func TestAskIsAnsweredAndTold(t *testing.T) {
	names := []string{"UTF-8", "ISO8859-1", "!\"#$%", "ascii"}
	for _, c := range []struct {
		may      []string
		his, our string
		err      api.Errno
	}{
		{[]string{"ASCII", "utf-8"}, "utf-8", "UTF-8", api.OK},
		{[]string{"ASCII", "iso8859-1"}, "iso8859-1", "ISO8859-1", api.OK},
		{[]string{"ASCII"}, "ASCII", "ascii", api.OK},
		{[]string{"!\"#$%", "ASCII"}, "!\"#$%", "!\"#$%", api.OK},
		{[]string{"KOI8"}, "", "", api.ErrNone},
		{nil, "", "", api.ErrNone},
	} {
		asked, e := choice.Ask(names)
		if asked != "\x01&UTF-8&ISO8859-1&!\"#$%&ascii" || e != api.OK {
			t.Fatalf("Ask(%q) = %q, %d", names, asked, e)
		}
		said, his, e := choice.Answer(c.may, asked)
		if his != c.his || e != api.OK {
			t.Errorf("Answer(%q, %q) = %q, %q, %d", c.may, asked, said, his, e)
		}
		expectTold(t, names, said, c.our, c.err)
	}
}
