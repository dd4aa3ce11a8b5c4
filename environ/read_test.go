package environ_test

import (
	"slices"
	"strings"
	"testing"

	"farwriter/api"
	"farwriter/environ"
)

func expectRead(t *testing.T, s string, err api.Errno, want ...api.Var) {
	t.Helper()
	if l, e := environ.Read(s); !slices.Equal(l, want) || e != err {
		t.Errorf("Read(%.300q) = %s, %d; want %s, %d", s, show(l), e, show(want), err)
	}
}

func TestRead(t *testing.T) {
	for _, g := range goodVars() {
		expectRead(t, g.s, api.OK, g.l...)
	}
}

func TestReadRefusesForms(t *testing.T) {
	for _, s := range []string{
		"x", "\x01", "\x02", "\x02\x00", "USER\x01jo", "\x01a", "\x01\x00a", "\x04a",
		"\x00\x02", "\x00a\x02", "\x00a\x01\x02", "\x00a\x01b\x02", "\x00\x02\x02\x02",
		"\x00\x02a", "\x00a\x02\x04", "\x00a\x01\x02b", "\x00a\x01b\x02\xff", "\x00a\x03b\x02c",
		"\x00\x01\x01", "\x00a\x01b\x01c", "\x00a\x01\x01", "\x03a\x01b\x00c\x01d\x01",
	} {
		expectRead(t, s, api.ErrForm)
	}
	for b := range 256 {
		s := string([]byte{byte(b)})
		if b != 0 && b != 3 {
			expectRead(t, s, api.ErrForm)
			expectRead(t, s+"a\x01b", api.ErrForm)
			expectRead(t, s+"\x00a\x01b", api.ErrForm)
		}
		if b > 3 {
			expectRead(t, "\x00a\x02"+s, api.ErrForm)
			expectRead(t, "\x00a\x02"+s+"\x00b", api.ErrForm)
			expectRead(t, "\x03a\x01\x02"+s, api.ErrForm)
		}
	}
}

// TestReadRefusesWhatIsNotWritten, for there is more of it than Write takes: that is no ErrLarge, as long as the text isn't too long.
func TestReadRefusesWhatIsNotWritten(t *testing.T) {
	for _, n := range []int{21, 22, 256, 256 + 5, 4096} {
		expectRead(t, strings.Repeat("\x00", n), api.ErrForm)
	}
	expectRead(t, text(vars(21)), api.ErrForm)
	for _, n := range []int{201, 202, 256, 256 + 5, 2000} {
		for _, b := range []string{"x", "\x02\x00", "\x02\x02", "\x02\x03"} {
			long := strings.Repeat(b, n)
			expectRead(t, "\x00"+long, api.ErrForm)
			expectRead(t, "\x00"+long+"\x00a", api.ErrForm)
			expectRead(t, "\x00"+long+"\x01", api.ErrForm)
			expectRead(t, "\x03a\x01"+long, api.ErrForm)
			expectRead(t, "\x00a\x03a\x01"+long+"\x00a", api.ErrForm)
		}
	}
}

// longest has variables that are written as 4096 bytes.
func longest() ([]api.Var, string) {
	word, quoted := strings.Repeat("\x01", 200), strings.Repeat("\x02\x01", 200)
	l := slices.Repeat([]api.Var{{Name: word, Value: word, Set: true}}, 5)
	l = append(l, api.Var{Name: strings.Repeat("x", 85), User: true})
	return l, strings.Repeat("\x00"+quoted+"\x01"+quoted, 5) + "\x03" + strings.Repeat("x", 85)
}

func TestReadAtItsBounds(t *testing.T) {
	l, s := longest()
	if len(s) != 4096 {
		t.Fatal(len(s))
	}
	expectRead(t, s, api.OK, l...)
	expectWrite(t, l, s, api.OK)
	expectRead(t, s+"x", api.ErrLarge)
	l[5].Name += "x"
	expectWrite(t, l, s+"x", api.OK)
}

// TestReadRefusesLongTexts ahead of their form.
func TestReadRefusesLongTexts(t *testing.T) {
	for _, n := range []int{4097, 4098, 8192, 65536, 1000000} {
		for _, b := range []string{"\x00", "\x01", "\x02", "\x03", "x", "\xff"} {
			expectRead(t, strings.Repeat(b, n), api.ErrLarge)
		}
	}
	for _, b := range []string{"\x01", "\x02", "x", "\xff"} {
		expectRead(t, strings.Repeat(b, 4096), api.ErrForm)
	}
}

const signs = "\x00\x01\x02\x03\x04a"

// shortTexts has all texts of so many of the signs at most.
func shortTexts(most int) []string {
	l, from := []string{""}, 0
	for range most {
		to := len(l)
		for _, s := range l[from:to] {
			for i := range len(signs) {
				l = append(l, s+signs[i:i+1])
			}
		}
		from = to
	}
	return l
}

// shortVars has each variable of these signs that is written as so many bytes at most, with what it is written as.
func shortVars(most int) []written {
	var l []written
	plain := strings.NewReplacer("\x00", "\x02\x00", "\x01", "\x02\x01", "\x02", "\x02\x02", "\x03", "\x02\x03")
	add := func(v api.Var, s string) {
		if len(s) < most {
			own := v
			own.User = true
			l = append(l, written{[]api.Var{v}, "\x00" + s}, written{[]api.Var{own}, "\x03" + s})
		}
	}
	words := shortTexts(most - 1)
	for _, name := range words {
		add(api.Var{Name: name}, plain.Replace(name))
		for _, value := range words {
			if len(name)+len(value)+2 > most {
				break
			}
			add(api.Var{Name: name, Value: value, Set: true}, plain.Replace(name)+"\x01"+plain.Replace(value))
		}
	}
	return l
}

// allWritten has all lists of variables that are written as so many bytes at most, by what they are written as.
func allWritten(most int) map[string][]api.Var {
	each := shortVars(most)
	all := map[string][]api.Var{"": nil}
	last := []written{{}}
	for len(last) > 0 {
		var next []written
		for _, w := range last {
			for _, v := range each {
				if len(w.s)+len(v.s) <= most {
					next = append(next, written{slices.Concat(w.l, v.l), w.s + v.s})
				}
			}
		}
		for _, w := range next {
			all[w.s] = w.l
		}
		last = next
	}
	return all
}

// TestReadIsWriteBackwards: of all short texts those are read that are written, and no others.
func TestReadIsWriteBackwards(t *testing.T) {
	const most = 6
	all := allWritten(most)
	seen := 0
	for _, s := range shortTexts(most) {
		l, ok := all[s]
		if !ok {
			expectRead(t, s, api.ErrForm)
			continue
		}
		seen++
		expectRead(t, s, api.OK, l...)
		expectWrite(t, l, s, api.OK)
	}
	if seen != len(all) {
		t.Errorf("%d texts are written, %d of them are short ones", len(all), seen)
	}
}
