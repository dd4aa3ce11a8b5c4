package environ_test

import (
	"slices"
	"strings"
	"testing"

	"farwriter/api"
	"farwriter/environ"
)

func expectWanted(t *testing.T, s string, err api.Errno, want ...api.Var) {
	t.Helper()
	if l, e := environ.Wanted(s); !slices.Equal(l, want) || e != err {
		t.Errorf("Wanted(%.300q) = %s, %d; want %s, %d", s, show(l), e, show(want), err)
	}
}

func TestWanted(t *testing.T) {
	expectWanted(t, "", api.OK)
	expectWanted(t, "\x00", api.OK, api.Var{})
	expectWanted(t, "\x03", api.OK, api.Var{User: true})
	expectWanted(t, "\x00USER\x03X\x00USER", api.OK, api.Var{Name: "USER"}, api.Var{Name: "X", User: true}, api.Var{Name: "USER"})
	expectWanted(t, "\x03\x00a\x02\x01b", api.OK, api.Var{User: true}, api.Var{Name: "a\x01b"})
	expectWanted(t, strings.Repeat("\x03", 20), api.OK, slices.Repeat([]api.Var{{User: true}}, 20)...)
	for _, w := range words() {
		expectWanted(t, "\x00"+w[1], api.OK, api.Var{Name: w[0]})
		expectWanted(t, "\x00a\x03"+w[1], api.OK, api.Var{Name: "a"}, api.Var{Name: w[0], User: true})
	}
}

// TestWantedRefusesValues wherever they stand, the empty one too.
func TestWantedRefusesValues(t *testing.T) {
	for _, one := range []string{"\x00\x01", "\x03\x01", "\x00a\x01", "\x03a\x01b", "\x00a\x01\x02\x01"} {
		expectWanted(t, one, api.ErrForm)
		expectWanted(t, one+"\x00a", api.ErrForm)
		expectWanted(t, "\x00a"+one, api.ErrForm)
		expectWanted(t, "\x00a"+one+"\x03", api.ErrForm)
	}
	_, s := longest()
	expectWanted(t, s, api.ErrForm)
	expectWanted(t, s+"x", api.ErrLarge)
}

func TestWantedAtItsBounds(t *testing.T) {
	one := "\x00" + strings.Repeat("\x02\x00", 200)
	s := strings.Repeat(one, 10) + "\x00" + strings.Repeat("x", 85)
	want := append(slices.Repeat([]api.Var{{Name: strings.Repeat("\x00", 200)}}, 10), api.Var{Name: strings.Repeat("x", 85)})
	if len(s) != 4096 {
		t.Fatal(len(s))
	}
	expectWanted(t, s, api.OK, want...)
	expectWanted(t, s+"x", api.ErrLarge)
	expectWanted(t, strings.Repeat("x", 4097), api.ErrLarge)
	expectWanted(t, strings.Repeat("x", 4096), api.ErrForm)
	expectWanted(t, strings.Repeat("\x00", 21), api.ErrForm)
	expectWanted(t, "\x00"+strings.Repeat("x", 201), api.ErrForm)
}

// TestWantedIsRead of variables that are not Set.
func TestWantedIsRead(t *testing.T) {
	for _, s := range shortTexts(6) {
		l, err := environ.Read(s)
		if slices.ContainsFunc(l, func(v api.Var) bool { return v.Set }) {
			l, err = nil, api.ErrForm
		}
		expectWanted(t, s, err, l...)
	}
}
