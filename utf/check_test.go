package utf_test

import (
	"sync"
	"testing"

	"farwriter/api"
	"farwriter/utf"
)

const bad = 65533

func isRune(n int) bool { return 0 <= n && n <= 1114111 && (n < 55296 || n > 57343) }

// bytesOf writes a rune by arithmetic, so that the program isn't held against the library that it calls.
func bytesOf(n int) string {
	tail := func(shift int) byte { return byte(128 + n>>shift&63) }
	switch {
	case n < 128:
		return string([]byte{byte(n)})
	case n < 2048:
		return string([]byte{byte(192 + n>>6), tail(0)})
	case n < 65536:
		return string([]byte{byte(224 + n>>12), tail(6), tail(0)})
	}
	return string([]byte{byte(240 + n>>18), tail(12), tail(6), tail(0)})
}

// model knows each rune by its bytes, and each beginning.
type model struct {
	runes      map[string]int
	beginnings map[string]bool
}

// theModel is made once for all tests: it holds more than a million runes.
var theModel = sync.OnceValue(newModel)

func newModel() model {
	m := model{map[string]int{}, map[string]bool{}}
	for n := range 1114112 {
		if !isRune(n) {
			continue
		}
		s := bytesOf(n)
		m.runes[s] = n
		for i := 1; i < len(s); i++ {
			m.beginnings[s[:i]] = true
		}
	}
	return m
}

// eachOf calls f with each text of at most n of the bytes.
func eachOf(bytes []byte, n int, f func(s string)) {
	var grow func(s []byte)
	grow = func(s []byte) {
		f(string(s))
		if len(s) == n {
			return
		}
		for _, b := range bytes {
			grow(append(s, b))
		}
	}
	grow(nil)
}

func allBytes() []byte {
	var l []byte
	for b := range 256 {
		l = append(l, byte(b))
	}
	return l
}

// edgeBytes: those at both sides of each bound of UTF-8.
func edgeBytes() []byte {
	return []byte("\x00\x7f\x80\x8f\x90\x9f\xa0\xbf\xc0\xc1\xc2\xdf\xe0\xe1\xec\xed\xee\xef\xf0\xf1\xf3\xf4\xf5\xff")
}

func expectCheck(t *testing.T, m model, s string) {
	t.Helper()
	want := api.ErrForm
	if s == "" || m.beginnings[s] {
		want = api.OK
	}
	if e := utf.Check(s); e != want {
		t.Errorf("Check(%q) = %d; want %d", s, e, want)
	}
}

func TestCheckEachShortText(t *testing.T) {
	m := theModel()
	eachOf(allBytes(), 2, func(s string) { expectCheck(t, m, s) })
	eachOf(edgeBytes(), 4, func(s string) { expectCheck(t, m, s) })
}

func TestCheckEachBeginning(t *testing.T) {
	m := theModel()
	for s := range m.beginnings {
		expectCheck(t, m, s)
		expectCheck(t, m, s+"a")
		expectCheck(t, m, "a"+s)
		expectCheck(t, m, s+s)
	}
}

func TestCheckByHand(t *testing.T) {
	for s, want := range map[string]api.Errno{
		"":                 api.OK,
		"\xc2":             api.OK,
		"\xdf":             api.OK,
		"\xe0\xa0":         api.OK,
		"\xed\x9f":         api.OK,
		"\xe2\x82":         api.OK,
		"\xf0\x90\x80":     api.OK,
		"\xf4\x8f\xbf":     api.OK,
		"a":                api.ErrForm,
		"\x80":             api.ErrForm,
		"\xc0":             api.ErrForm,
		"\xc1":             api.ErrForm,
		"\xf5":             api.ErrForm,
		"\xe0\x9f":         api.ErrForm,
		"\xed\xa0":         api.ErrForm,
		"\xf0\x8f":         api.ErrForm,
		"\xf4\x90":         api.ErrForm,
		"\xe2\x82\xac":     api.ErrForm,
		"\xf0\x9f\x98\x80": api.ErrForm,
		"\xf0\x9f\x98a":    api.ErrForm,
		"\xc2\xc2":         api.ErrForm,
	} {
		if e := utf.Check(s); e != want {
			t.Errorf("Check(%q) = %d; want %d", s, e, want)
		}
	}
}
