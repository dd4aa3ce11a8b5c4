package slc_test

import (
	"strings"
	"testing"

	"farwriter/api"
	"farwriter/slc"
)

func expectTake(t *testing.T, k api.Keys, data string, want api.Keys, said string, err api.Errno) {
	t.Helper()
	if got, s, e := slc.Take(k, data); got != want || s != said || e != err {
		t.Fatalf("Take(%v, %x) = %v, %x, %d; want %v, %x, %d", k, data, got, s, e, want, said, err)
	}
}

// taken is what is heard of function 10, with what we hold of it before and behind that.
type taken struct {
	level, char byte
	heard       string
	after, key  byte
	said        string
}

func TestTakeByHand(t *testing.T) {
	for _, c := range []taken{
		// He has what we have.
		{api.LNone, 0, "\x0a\x00\x00", api.LNone, 0, ""},
		{api.LNone, 9, "\x0a\x80\x09", api.LNone, 9, ""},
		{api.LFixed, 8, "\x0a\x01\x08", api.LFixed, 8, ""},
		{api.LFixed, 8, "\x0a\x81\x08", api.LFixed, 8, ""},
		{api.LValue, 8, "\x0a\x02\x08", api.LValue, 8, ""},
		{api.LValue, 8, "\x0a\x7e\x08", api.LValue, 8, ""},
		// What he says is certain.
		{api.LNone, 0, "\x0a\x82\x7f", api.LValue, 127, ""},
		{api.LNone, 0, "\x0a\x81\x7f", api.LFixed, 127, ""},
		{api.LFixed, 8, "\x0a\x82\x08", api.LValue, 8, ""},
		{api.LFixed, 8, "\x0a\x81\x7f", api.LFixed, 127, ""},
		{api.LFixed, 8, "\x0a\x80\x7f", api.LNone, 127, ""},
		{api.LValue, 8, "\x0a\xfd\x08", api.LFixed, 8, ""},
		{api.LValue, 8, "\x0a\x83\x7f", api.LValue, 8, ""},
		{api.LFixed, 8, "\x0a\xff\x08", api.LFixed, 8, ""},
		// He has no key.
		{api.LNone, 0, "\x0a\x00\x05", api.LNone, 5, "\x0a\x80\x05"},
		{api.LFixed, 8, "\x0a\x00\x08", api.LNone, 8, "\x0a\x80\x08"},
		{api.LValue, 8, "\x0a\x7c\x00", api.LNone, 0, "\x0a\x80\x00"},
		// He asks what we have.
		{api.LNone, 7, "\x0a\x03\x07", api.LNone, 7, "\x0a\x00\x07"},
		{api.LFixed, 8, "\x0a\x03\x00", api.LFixed, 8, "\x0a\x01\x08"},
		{api.LValue, 255, "\x0a\x43\xff", api.LValue, 255, "\x0a\x02\xff"},
		// Our key may not be another one.
		{api.LFixed, 8, "\x0a\x01\x7f", api.LNone, 0, "\x0a\x00\x00"},
		{api.LFixed, 8, "\x0a\x02\x7f", api.LFixed, 8, "\x0a\x01\x08"},
		{api.LFixed, 8, "\x0a\x02\x08", api.LFixed, 8, "\x0a\x01\x08"},
		{api.LFixed, 8, "\x0a\x21\x00", api.LNone, 0, "\x0a\x00\x00"},
		// We take his.
		{api.LNone, 0, "\x0a\x02\x7f", api.LValue, 127, "\x0a\x82\x7f"},
		{api.LNone, 127, "\x0a\x01\x7f", api.LFixed, 127, "\x0a\x81\x7f"},
		{api.LValue, 8, "\x0a\x02\x7f", api.LValue, 127, "\x0a\x82\x7f"},
		{api.LValue, 8, "\x0a\x01\x08", api.LFixed, 8, "\x0a\x81\x08"},
		{api.LValue, 8, "\x0a\x42\x00", api.LValue, 0, "\x0a\x82\x00"},
	} {
		expectTake(t, with(mixed(), 10, c.level, c.char), c.heard, with(mixed(), 10, c.after, c.key), c.said, api.OK)
	}
}

// wantHeard goes by P10.2's words, case by case.
func wantHeard(k api.Keys, f, g, c int) (api.Keys, string) {
	if f < 1 || f > 18 {
		if g < 128 {
			return k, string([]byte{byte(f), 0, 0})
		}
		return k, ""
	}
	level, sure := g%4, g >= 128
	ourLevel, ourChar := int(k.Levels[f]), int(k.Chars[f])
	after := with(k, f, byte(level), byte(c))
	switch {
	case level == ourLevel && c == ourChar, sure && level == 3:
		return k, ""
	case sure:
		return after, ""
	case level == 0:
		return after, string([]byte{byte(f), 128, byte(c)})
	case level == 3:
		return k, string([]byte{byte(f), byte(ourLevel), byte(ourChar)})
	case ourLevel == 1 && level == 1:
		return with(k, f, 0, 0), string([]byte{byte(f), 0, 0})
	case ourLevel == 1:
		return k, string([]byte{byte(f), 1, byte(ourChar)})
	}
	return after, string([]byte{byte(f), byte(128 + level), byte(c)})
}

func TestTakeOfEachTriple(t *testing.T) {
	for f := range 256 {
		for g := range 256 {
			for _, c := range []int{0, 1, 2, 8, 127, 128, 255} {
				want, said := wantHeard(mixed(), f, g, c)
				expectTake(t, mixed(), string([]byte{byte(f), byte(g), byte(c)}), want, said, api.OK)
			}
		}
	}
}

func TestTakeAtEachLevel(t *testing.T) {
	for f := 1; f <= 18; f++ {
		for level := byte(0); level <= 2; level++ {
			for _, char := range []byte{0, 1, 127, 255} {
				k := with(mixed(), f, level, char)
				for g := range 256 {
					for _, c := range []int{0, 1, 2, 126, 127, 128, 255} {
						want, said := wantHeard(k, f, g, c)
						expectTake(t, k, string([]byte{byte(f), byte(g), byte(c)}), want, said, api.OK)
					}
				}
			}
		}
	}
}

// TestTakeOfEachKey: the key is a whole byte, ours and his.
func TestTakeOfEachKey(t *testing.T) {
	for _, level := range []byte{0, 1, 2} {
		for char := range 256 {
			k := with(api.Keys{}, 14, level, byte(char))
			for g := range 4 {
				for c := range 256 {
					want, said := wantHeard(k, 14, g, c)
					expectTake(t, k, string([]byte{14, byte(g), byte(c)}), want, said, api.OK)
				}
			}
		}
	}
}

// TestTakeInOrder: what is heard later meets what was made of that which came ahead.
func TestTakeInOrder(t *testing.T) {
	k := with(api.Keys{}, 10, api.LFixed, 8)
	for _, c := range []struct {
		heard string
		want  api.Keys
		said  string
	}{
		{"", k, ""},
		{"\x0a\x01\x7f\x0a\x01\x7f", with(k, 10, api.LFixed, 127), "\x0a\x00\x00\x0a\x81\x7f"},
		{"\x0a\x02\x7f\x0a\x00\x7f\x0a\x02\x7f", with(k, 10, api.LValue, 127), "\x0a\x01\x08\x0a\x80\x7f\x0a\x82\x7f"},
		{"\x0b\x02\x15\x0b\x03\x00\x0b\x02\x15", with(k, 11, api.LValue, 21), "\x0b\x82\x15\x0b\x02\x15"},
		{"\x0c\x82\x17\x0c\x03\x00\x0c\x83\x00", with(k, 12, api.LValue, 23), "\x0c\x02\x17"},
		{"\x13\x02\x05\x00\x80\x05\x00\x00\x05\xff\x7f\xff\x0d\x02\x12", with(k, 13, api.LValue, 18), "\x13\x00\x00\x00\x00\x00\xff\x00\x00\x0d\x82\x12"},
	} {
		expectTake(t, k, c.heard, c.want, c.said, api.OK)
	}
}

// lots is so many bytes, which are triples of all sorts, of functions that are and that are none.
func lots(n int) string {
	var l []byte
	for i := 0; len(l) < n; i++ {
		l = append(l, byte(i*7%20), byte(i*5), byte(i*i))
	}
	return string(l[:n])
}

func TestTakeOfManyTriples(t *testing.T) {
	for n := 0; n <= 300; n += 3 {
		data := lots(n)
		want, said := mixed(), ""
		for i := 0; i < n; i += 3 {
			var s string
			want, s = wantHeard(want, int(data[i]), int(data[i+1]), int(data[i+2]))
			said += s
		}
		expectTake(t, mixed(), data, want, said, api.OK)
	}
	expectTake(t, mixed(), strings.Repeat("\x14\x00\x01", 100), mixed(), strings.Repeat("\x14\x00\x00", 100), api.OK)
}

// TestTakeRefusesLengths: what is no multiple of 3 is told first, also where it is too large; the Keys stay as they were.
func TestTakeRefusesLengths(t *testing.T) {
	for _, n := range []int{1, 2, 4, 5, 53, 55, 298, 299, 301, 302, 304, 4096, 100000} {
		expectTake(t, mixed(), lots(n), mixed(), "", api.ErrForm)
	}
	for _, n := range []int{303, 306, 600, 3 * 256, 4095, 3 * 65536} {
		expectTake(t, mixed(), lots(n), mixed(), "", api.ErrLarge)
	}
}

// TestTakeRefusesKeys ahead of any fault of the data, and tells them as they were.
func TestTakeRefusesKeys(t *testing.T) {
	for _, k := range noKeys() {
		for _, data := range []string{"", "\x0a\x02\x7f", "\x0a\x82\x7f", "\x01\x00\x00", "ab", lots(303), lots(304)} {
			expectTake(t, k, data, k, "", api.ErrForm)
		}
	}
}

// TestTakeKeepsKeys: whatever was heard, what we hold is Keys.
func TestTakeKeepsKeys(t *testing.T) {
	k := mixed()
	for n := range 5000 {
		var data []byte
		for i := range 30 {
			data = append(data, byte((n*31+i*17)^(n>>3)))
		}
		var e api.Errno
		k, _, e = slc.Take(k, string(data))
		if e != api.OK || slc.Check(k) != api.OK {
			t.Fatalf("behind %x: %v, %d", data, k, e)
		}
	}
}

// TestTakeKeepsNothing: the same is told again, whatever was taken in between.
func TestTakeKeepsNothing(t *testing.T) {
	for i := range 100 {
		want, said, _ := slc.Take(mixed(), lots(300))
		slc.Take(with(mixed(), 1+i%18, api.LFixed, byte(i)), lots(3*i))
		slc.Meet(api.Keys{}, mixed())
		expectTake(t, mixed(), lots(300), want, said, api.OK)
	}
}
