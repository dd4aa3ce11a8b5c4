package choice_test

import (
	"strconv"
	"strings"
	"testing"

	"farwriter/api"
	"farwriter/choice"
)

// parts has all bytes by which Ask may part names, the least first.
const parts = "!\"#$%&'()*+,-./"

// pages has n names, each other than the others.
func pages(n int) []string {
	l := make([]string, n)
	for i := range l {
		l[i] = "ISO8859:" + strconv.Itoa(i+1)
	}
	return l
}

// noNames has texts that can't be a name.
func noNames() []string {
	l := []string{"", strings.Repeat("x", 41), strings.Repeat("x", 256+5), strings.Repeat("x", 100000), "a b", "\xc3\xa9", "\xff\xf0"}
	for b := range 256 {
		if b < 33 || b > 126 {
			s := string([]byte{byte(b)})
			l = append(l, s, s+"KOI8", "KO"+s+"I8", "KOI8"+s, strings.Repeat("x", 39)+s)
		}
	}
	return l
}

func expectAsk(t *testing.T, names []string, want string, err api.Errno) {
	t.Helper()
	if s, e := choice.Ask(names); s != want || e != err {
		t.Errorf("Ask(%.300q) = %q, %d; want %q, %d", names, s, e, want, err)
	}
}

func TestAsk(t *testing.T) {
	expectAsk(t, []string{"UTF-8", "ASCII"}, "\x01!UTF-8!ASCII", api.OK)
	expectAsk(t, []string{"UTF-8"}, "\x01!UTF-8", api.OK)
	expectAsk(t, []string{"ASCII", "UTF-8"}, "\x01!ASCII!UTF-8", api.OK)
	expectAsk(t, []string{"a!", "b"}, "\x01\"a!\"b", api.OK)
	expectAsk(t, []string{"b", "a!"}, "\x01\"b\"a!", api.OK)
	expectAsk(t, []string{"\"", "!!"}, "\x01#\"#!!", api.OK)
	expectAsk(t, []string{"\"#", "x"}, "\x01!\"#!x", api.OK)
	expectAsk(t, []string{"same", "same", "SAME"}, "\x01!same!same!SAME", api.OK)
}

func TestAskEachCount(t *testing.T) {
	for n := 1; n <= 8; n++ {
		expectAsk(t, pages(n), "\x01!"+strings.Join(pages(n), "!"), api.OK)
	}
}

func TestAskNamesAtTheirBounds(t *testing.T) {
	for b := 34; b <= 126; b++ {
		s := string(rune(b))
		expectAsk(t, []string{s, "x" + s + "x"}, "\x01!"+s+"!x"+s+"x", api.OK)
	}
	for n := 1; n <= 40; n++ {
		s := strings.Repeat("~", n)
		expectAsk(t, []string{s, "KOI8"}, "\x01!"+s+"!KOI8", api.OK)
		s = strings.Repeat("!", n)
		expectAsk(t, []string{"KOI8", s}, "\x01\"KOI8\""+s, api.OK)
	}
}

// TestAskPartsByEachByte: all parting bytes but one are taken, by one name or by several.
func TestAskPartsByEachByte(t *testing.T) {
	for _, part := range strings.Split(parts, "") {
		taken := strings.ReplaceAll(parts, part, "")
		expectAsk(t, []string{taken, "x"}, "\x01"+part+taken+part+"x", api.OK)
		names := []string{taken[:4], "x", taken[4:7] + "x", "x" + taken[7:13], taken[13:]}
		expectAsk(t, names, "\x01"+part+strings.Join(names, part), api.OK)
	}
}

// TestAskPartsByTheLeast of those that are free.
func TestAskPartsByTheLeast(t *testing.T) {
	for n := range len(parts) {
		part := parts[n : n+1]
		expectAsk(t, []string{"x" + parts[:n]}, "\x01"+part+"x"+parts[:n], api.OK)
	}
}

func TestAskFull(t *testing.T) {
	expectAsk(t, []string{parts}, "", api.ErrFull)
	expectAsk(t, []string{"UTF-8", "x" + parts + "0x", "ASCII"}, "", api.ErrFull)
	for n := 1; n < len(parts); n++ {
		expectAsk(t, []string{parts[n:], parts[:n]}, "", api.ErrFull)
	}
	expectAsk(t, []string{"./", "()*", "+,-", "&'", "%", "$", "#", "!\""}, "", api.ErrFull)
}

func TestAskRefusesNoNames(t *testing.T) {
	for _, bad := range noNames() {
		expectAsk(t, []string{bad}, "", api.ErrForm)
		expectAsk(t, []string{parts, bad}, "", api.ErrForm)
		for _, at := range []int{0, 3, 7} {
			names := pages(8)
			names[at] = bad
			expectAsk(t, names, "", api.ErrForm)
		}
	}
}

// TestAskRefusesCounts also where the names are wrong too: the count is told first.
func TestAskRefusesCounts(t *testing.T) {
	expectAsk(t, nil, "", api.ErrArg)
	expectAsk(t, []string{}, "", api.ErrArg)
	for _, n := range []int{9, 10, 16, 256 + 1, 1000} {
		expectAsk(t, pages(n), "", api.ErrArg)
		expectAsk(t, make([]string, n), "", api.ErrArg)
		expectAsk(t, append(pages(n-1), parts), "", api.ErrArg)
	}
}
