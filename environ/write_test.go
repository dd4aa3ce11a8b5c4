package environ_test

import (
	"fmt"
	"slices"
	"strconv"
	"strings"
	"testing"

	"farwriter/api"
	"farwriter/environ"
)

// show tells variables in a line that isn't too long.
func show(l []api.Var) string { return fmt.Sprintf("%d: %.300q", len(l), fmt.Sprintf("%+v", l)) }

// vars has n variables, each other than the others.
func vars(n int) []api.Var {
	l := make([]api.Var, n)
	for i := range l {
		l[i] = api.Var{Name: "V" + strconv.Itoa(i), Value: strconv.Itoa(i * i), Set: true}
	}
	return l
}

// text is what vars are written as.
func text(l []api.Var) string {
	var s strings.Builder
	for _, v := range l {
		s.WriteString("\x00" + v.Name + "\x01" + v.Value)
	}
	return s.String()
}

// words has texts of which each byte is written in its own way, and their written form.
func words() [][2]string {
	l := [][2]string{
		{"", ""}, {"USER", "USER"}, {"\x00", "\x02\x00"}, {"\x00\x01\x02\x03\x04", "\x02\x00\x02\x01\x02\x02\x02\x03\x04"},
		{"a\x02", "a\x02\x02"}, {"\x02\x02", "\x02\x02\x02\x02"}, {"\x03b\x01", "\x02\x03b\x02\x01"},
		{"\xff\xf0\xfe", "\xff\xf0\xfe"}, {"\xc3\xa9\u20ac", "\xc3\xa9\u20ac"}, {"\xc3", "\xc3"}, {"a=b\r\n", "a=b\r\n"},
	}
	for b := range 256 {
		s := string([]byte{byte(b)})
		if b <= 3 {
			l = append(l, [2]string{s, "\x02" + s}, [2]string{"a" + s + "a", "a\x02" + s + "a"})
		} else {
			l = append(l, [2]string{s, s}, [2]string{"a" + s + "a", "a" + s + "a"})
		}
	}
	for _, n := range []int{2, 199, 200} {
		l = append(l, [2]string{strings.Repeat("x", n), strings.Repeat("x", n)}, [2]string{strings.Repeat("\x02", n), strings.Repeat("\x02", 2*n)})
	}
	return l
}

// written is variables and the one text that they are written as.
type written struct {
	l []api.Var
	s string
}

func goodVars() []written {
	l := []written{
		{nil, ""},
		{[]api.Var{{}}, "\x00"},
		{[]api.Var{{User: true}}, "\x03"},
		{[]api.Var{{Set: true}}, "\x00\x01"},
		{[]api.Var{{User: true, Set: true}}, "\x03\x01"},
		{[]api.Var{{Name: "X", User: true}}, "\x03X"},
		{[]api.Var{{Name: "USER", Value: "jo", Set: true}, {Name: "USER", Value: "al", Set: true}}, "\x00USER\x01jo\x00USER\x01al"},
		{[]api.Var{{Name: "b"}, {Name: "a", User: true}, {}, {Name: "a", Value: "c", User: true, Set: true}}, "\x00b\x03a\x00\x03a\x01c"},
		{make([]api.Var, 20), strings.Repeat("\x00", 20)},
	}
	for n := 1; n <= 20; n++ {
		l = append(l, written{vars(n), text(vars(n))})
	}
	for _, w := range words() {
		l = append(l,
			written{[]api.Var{{Name: w[0]}}, "\x00" + w[1]},
			written{[]api.Var{{Name: w[0], User: true}}, "\x03" + w[1]},
			written{[]api.Var{{Value: w[0], Set: true}}, "\x00\x01" + w[1]},
			written{[]api.Var{{Name: w[0], Value: w[0], User: true, Set: true}, {Name: "n"}}, "\x03" + w[1] + "\x01" + w[1] + "\x00n"})
	}
	return l
}

func expectWrite(t *testing.T, l []api.Var, want string, err api.Errno) {
	t.Helper()
	if s, e := environ.Write(l); s != want || e != err {
		t.Errorf("Write(%s) = %.300q, %d; want %.300q, %d", show(l), s, e, want, err)
	}
}

func TestWrite(t *testing.T) {
	for _, g := range goodVars() {
		expectWrite(t, g.l, g.s, api.OK)
	}
}

// TestWriteAtItsBounds: what is written may be more than Read reads.
func TestWriteAtItsBounds(t *testing.T) {
	word := strings.Repeat("\x03", 200)
	one := "\x03" + strings.Repeat("\x02\x03", 200) + "\x01" + strings.Repeat("\x02\x03", 200)
	expectWrite(t, slices.Repeat([]api.Var{{Name: word, Value: word, User: true, Set: true}}, 20), strings.Repeat(one, 20), api.OK)
}

// refused is variables that can't be written.
type refused struct {
	l   []api.Var
	err api.Errno
}

// badVars has one wrong variable at each place among right ones, and too many; where one is of a wrong form too, what is too large is told.
func badVars() []refused {
	var l []refused
	form := api.Var{Name: "F", Value: "x"}
	for _, at := range []int{0, 1, 10, 19} {
		with := func(v api.Var) []api.Var {
			list := vars(20)
			list[at] = v
			return list
		}
		for _, n := range []int{201, 256, 256 + 200, 100000} {
			long := strings.Repeat("x", n)
			for _, v := range []api.Var{{Name: long}, {Name: long, Value: "x"}, {Value: long, Set: true}, {Name: "N", Value: long}, {Name: long, Value: long, User: true}} {
				l = append(l, refused{with(v), api.ErrLarge}, refused{[]api.Var{v}, api.ErrLarge},
					refused{[]api.Var{form, v}, api.ErrLarge}, refused{[]api.Var{v, form}, api.ErrLarge})
			}
		}
		for _, v := range []api.Var{form, {Value: "\x00"}, {Name: "F", Value: strings.Repeat("x", 200), User: true}} {
			l = append(l, refused{with(v), api.ErrForm}, refused{[]api.Var{v}, api.ErrForm}, refused{[]api.Var{v, form}, api.ErrForm})
		}
	}
	for _, n := range []int{21, 22, 256, 256 + 5, 100000} {
		l = append(l, refused{vars(n), api.ErrLarge}, refused{make([]api.Var, n), api.ErrLarge}, refused{slices.Repeat([]api.Var{form}, n), api.ErrLarge})
	}
	return l
}

func TestWriteRefuses(t *testing.T) {
	for _, r := range badVars() {
		expectWrite(t, r.l, "", r.err)
	}
}
