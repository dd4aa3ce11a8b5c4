package choice_test

import (
	"slices"
	"strings"
	"testing"

	"farwriter/api"
	"farwriter/choice"
)

func expectAnswer(t *testing.T, may []string, data, want, own string, err api.Errno) {
	t.Helper()
	if s, o, e := choice.Answer(may, data); s != want || o != own || e != err {
		t.Errorf("Answer(%.200q, %.200q) = %q, %q, %d; want %q, %q, %d", may, data, s, o, e, want, own, err)
	}
}

func TestAnswer(t *testing.T) {
	may := []string{"ASCII", "UTF-8", "utf-8", "KOI8"}
	for _, c := range []struct{ data, want, own string }{
		{"\x01;UTF-8", "\x02UTF-8", "UTF-8"},
		{"\x01;utf-8", "\x02utf-8", "UTF-8"},
		{"\x01;x;uTF-8;ASCII", "\x02uTF-8", "UTF-8"},
		{"\x01;KOI8;ASCII", "\x02KOI8", "KOI8"},
		{"\x01;ascii;ASCII", "\x02ascii", "ASCII"},
		{"\x01;koi8", "\x02koi8", "KOI8"},
		{"\x01;KOI;KOI88;OI8", "\x03", ""},
		{"\x01;x", "\x03", ""},
	} {
		expectAnswer(t, may, c.data, c.want, c.own, api.OK)
	}
}

// TestAnswerByEachPart: whatever byte parts the names, a letter too; and it is no part of them.
func TestAnswerByEachPart(t *testing.T) {
	for b := 33; b <= 126; b++ {
		part, name := string(rune(b)), "yz"
		if strings.Contains(name, part) {
			name = "01"
		}
		no := strings.ReplaceAll("QR", part, "")
		expectAnswer(t, []string{part, name}, "\x01"+part+no+part+name, "\x02"+name, name, api.OK)
		expectAnswer(t, []string{part, no + part + name}, "\x01"+part+no+part+name, "\x03", "", api.OK)
	}
	expectAnswer(t, []string{"B", "C"}, "\x01aAaB", "\x02B", "B", api.OK)
	expectAnswer(t, []string{"a"}, "\x01aAaB", "\x02A", "a", api.OK)
}

func TestAnswerOfTheFirstAsked(t *testing.T) {
	names := pages(8)
	may := pages(8)
	slices.Reverse(may)
	for n := range 8 {
		data := "\x01/" + strings.Join(names[n:], "/")
		expectAnswer(t, may, data, "\x02"+names[n], names[n], api.OK)
		expectAnswer(t, names[7:], data, "\x02"+names[7], names[7], api.OK)
	}
	expectAnswer(t, pages(100)[8:], "\x01/"+strings.Join(names, "/"), "\x03", "", api.OK)
	expectAnswer(t, pages(100), "\x01/ISO8859:100", "\x02ISO8859:100", "ISO8859:100", api.OK)
}

// TestAnswerOfTheFirstOwn: among its own names that are like the one that is asked for it takes the first.
func TestAnswerOfTheFirstOwn(t *testing.T) {
	may := []string{"x", "utF-8", "UTF-8", "utf-8", "X"}
	for _, name := range []string{"UTF-8", "utf-8", "Utf-8", "utF-8"} {
		expectAnswer(t, may, "\x01;"+name, "\x02"+name, "utF-8", api.OK)
	}
	expectAnswer(t, may, "\x01;X", "\x02X", "x", api.OK)
}

// TestLikeIsOfLettersAlone: of two different bytes only the two forms of a letter from a to z are like each other.
func TestLikeIsOfLettersAlone(t *testing.T) {
	for a := 34; a <= 126; a++ {
		for b := range 256 {
			name, own := "n"+string(rune(a)), "N"+string([]byte{byte(b)})
			low, high := min(a, b), max(a, b)
			if a == b || 'A' <= low && low <= 'Z' && high == low+32 {
				expectAnswer(t, []string{own}, "\x01!"+name, "\x02"+name, own, api.OK)
			} else {
				expectAnswer(t, []string{own}, "\x01!"+name, "\x03", "", api.OK)
			}
		}
	}
}

// TestAnswerWhateverItMay: texts that are no names are like no name, also those that other ways to fold make the same.
func TestAnswerWhateverItMay(t *testing.T) {
	data := "\x01;k;s;UTF-8"
	for _, may := range [][]string{nil, {}, noNames(), {"\u212a", "\u017f"}, {"UTF-8 ", " UTF-8", "UTF-8;", ";UTF-8", "UTF-8\x00"}, {strings.Repeat("UTF-8", 1000)}} {
		expectAnswer(t, may, data, "\x03", "", api.OK)
		expectAnswer(t, append(slices.Clone(may), "utf-8"), data, "\x02UTF-8", "utf-8", api.OK)
	}
}

func TestAnswerNamesAtTheirBounds(t *testing.T) {
	for n := 1; n <= 40; n++ {
		a, b := strings.Repeat("~", n), strings.Repeat("\"", n)
		expectAnswer(t, []string{a}, "\x01!"+b+"!"+a, "\x02"+a, a, api.OK)
		expectAnswer(t, []string{b}, "\x01!"+a+"!"+b, "\x02"+b, b, api.OK)
	}
}

func TestAnswerRefusesForms(t *testing.T) {
	may := []string{"UTF-8", "", "a"}
	for _, data := range []string{
		"", "\x01", ";", "1;a", "\x01;", "\x01;;", "\x01;a;", "\x01;;a", "\x01;a;;UTF-8", "\x01a", "\x01aa",
		"\x01UTF-8U", "\x01;a\x01;a", "\x01;UTF-8;a b", ";\x01a", "\x01\x01;a", "\x02a", "\x03",
		"\x01" + strings.Repeat(";", 100000), "\x01" + strings.Repeat(";a", 100000) + ";",
	} {
		expectAnswer(t, may, data, "", "", api.ErrForm)
	}
	for b := range 256 {
		s := string([]byte{byte(b)})
		if b != 1 {
			expectAnswer(t, may, s, "", "", api.ErrForm)
			expectAnswer(t, may, s+";a", "", "", api.ErrForm)
			expectAnswer(t, may, s+";UTF-8;a", "", "", api.ErrForm)
		}
		if b < 33 || b > 126 {
			expectAnswer(t, may, "\x01"+s, "", "", api.ErrForm)
			expectAnswer(t, may, "\x01"+s+"a", "", "", api.ErrForm)
			expectAnswer(t, may, "\x01"+s+"a"+s+"UTF-8", "", "", api.ErrForm)
		}
	}
}

// TestAnswerRefusesNoNames wherever they stand, also behind a name that it may have.
func TestAnswerRefusesNoNames(t *testing.T) {
	for _, bad := range noNames() {
		for _, at := range []int{0, 1, 7} {
			names := pages(8)
			names[at] = bad
			expectAnswer(t, pages(8), "\x01!"+strings.Join(names, "!"), "", "", api.ErrForm)
		}
		expectAnswer(t, []string{bad}, "\x01!"+bad, "", "", api.ErrForm)
	}
}

func TestAnswerRefusesManyNames(t *testing.T) {
	for _, n := range []int{9, 10, 16, 256 + 1, 100000} {
		names := pages(n)
		expectAnswer(t, names[:1], "\x01!"+strings.Join(names, "!"), "", "", api.ErrLarge)
		expectAnswer(t, nil, "\x01!"+strings.Join(names, "!"), "", "", api.ErrLarge)
		for _, at := range []int{0, 7, 8, n - 1} {
			wrong := slices.Clone(names)
			wrong[at] = "a b"
			expectAnswer(t, names[:1], "\x01!"+strings.Join(wrong, "!"), "", "", api.ErrForm)
			wrong[at] = ""
			expectAnswer(t, names[:1], "\x01!"+strings.Join(wrong, "!"), "", "", api.ErrForm)
		}
	}
	same := "\x01" + strings.Repeat(";a", 8)
	expectAnswer(t, []string{"A"}, same, "\x02a", "A", api.OK)
	expectAnswer(t, []string{"A"}, same+";a", "", "", api.ErrLarge)
}
