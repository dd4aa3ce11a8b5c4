package environ_test

import (
	"slices"
	"strings"
	"testing"

	"farwriter/api"
	"farwriter/environ"
)

func expectAnswer(t *testing.T, have []api.Var, data, want string, err api.Errno) {
	t.Helper()
	if s, e := environ.Answer(have, data); s != want || e != err {
		t.Errorf("Answer(%s, %.300q) = %.300q, %d; want %.300q, %d", show(have), data, s, e, want, err)
	}
}

// known has variables of both sorts: some with one name, some without a value, one without a name.
func known() []api.Var {
	return []api.Var{
		{Name: "USER", Value: "jo", Set: true},
		{Name: "X", Value: "\x01", Set: true, User: true},
		{Name: "EMPTY", Set: true},
		{Name: "X", Value: "2", Set: true, User: true},
		{Name: "X", Value: "3", Set: true},
		{Name: "NONE", User: true},
		{Value: "nameless", Set: true},
	}
}

func TestAnswer(t *testing.T) {
	for _, c := range []struct{ ask, want string }{
		{"", "\x00USER\x01jo\x03X\x01\x02\x01\x00EMPTY\x01\x03X\x012\x00X\x013\x03NONE\x00\x01nameless"},
		{"\x00", "\x00USER\x01jo\x00EMPTY\x01\x00X\x013\x00\x01nameless"},
		{"\x03", "\x03X\x01\x02\x01\x03X\x012\x03NONE"},
		{"\x03\x03", "\x03X\x01\x02\x01\x03X\x012\x03NONE\x03X\x01\x02\x01\x03X\x012\x03NONE"},
		{"\x00USER", "\x00USER\x01jo"},
		{"\x03USER", "\x03USER"},
		{"\x00USER\x03USER\x00USER", "\x00USER\x01jo\x03USER\x00USER\x01jo"},
		{"\x00X", "\x00X\x013"},
		{"\x03X", "\x03X\x01\x02\x01"},
		{"\x00EMPTY\x03EMPTY", "\x00EMPTY\x01\x03EMPTY"},
		{"\x03NONE\x00NONE", "\x03NONE\x00NONE"},
		{"\x00user\x00USE\x00USERS\x00SER", "\x00user\x00USE\x00USERS\x00SER"},
		{"\x03a\x02\x03\x00X\x03\x00b", "\x03a\x02\x03\x00X\x013\x03X\x01\x02\x01\x03X\x012\x03NONE\x00b"},
	} {
		expectAnswer(t, known(), "\x01"+c.ask, "\x00"+c.want, api.OK)
	}
}

func TestAnswerOfNothing(t *testing.T) {
	for _, have := range [][]api.Var{nil, {}} {
		expectAnswer(t, have, "\x01", "\x00", api.OK)
		expectAnswer(t, have, "\x01\x00\x03", "\x00", api.OK)
		expectAnswer(t, have, "\x01\x00USER\x00\x03X", "\x00\x00USER\x03X", api.OK)
	}
	expectAnswer(t, []api.Var{{Name: "X", User: true, Set: true}}, "\x01\x00", "\x00", api.OK)
	expectAnswer(t, []api.Var{{Name: "X", Set: true}}, "\x01\x03", "\x00", api.OK)
}

func TestAnswerEachWord(t *testing.T) {
	for _, w := range words() {
		if w[0] == "" {
			continue
		}
		have := []api.Var{{Name: w[0], Value: "other", User: true, Set: true}, {Name: w[0], Value: w[0], Set: true}}
		expectAnswer(t, have, "\x01\x00"+w[1], "\x00\x00"+w[1]+"\x01"+w[1], api.OK)
		expectAnswer(t, have[:1], "\x01\x00"+w[1], "\x00\x00"+w[1], api.OK)
	}
}

func TestAnswerEachOfMany(t *testing.T) {
	have := vars(1000)
	for _, v := range have {
		expectAnswer(t, have, "\x01\x00"+v.Name, "\x00\x00"+v.Name+"\x01"+v.Value, api.OK)
		expectAnswer(t, have, "\x01\x03"+v.Name+"\x03", "\x00\x03"+v.Name, api.OK)
	}
}

func TestAnswerRefusesForms(t *testing.T) {
	for b := range 256 {
		if s := string([]byte{byte(b)}); b != 1 {
			expectAnswer(t, known(), s, "", api.ErrForm)
			expectAnswer(t, known(), s+"\x00USER", "", api.ErrForm)
			expectAnswer(t, known(), s+"\x01", "", api.ErrForm)
		}
	}
	for _, data := range []string{
		"", "USER", "\x01USER", "\x01\x01", "\x01\x02", "\x01\x00USER\x01", "\x01\x00USER\x01jo", "\x01\x00\x01",
		"\x01\x00\x02", "\x01\x00\x02a", "\x01\x00USER\x03X\x01", "\x00\x00USER\x01jo", "\x02\x00USER\x01jo",
	} {
		expectAnswer(t, known(), data, "", api.ErrForm)
		expectAnswer(t, nil, data, "", api.ErrForm)
	}
}

// TestAnswerRefusesWhatIsNotWanted by Wanted's error, whatever there is to have; without the byte ahead nothing is read.
func TestAnswerRefusesWhatIsNotWanted(t *testing.T) {
	long := strings.Repeat("x", 201)
	for _, have := range [][]api.Var{nil, known(), vars(21), {{Name: long}}, {{Value: "x"}}} {
		expectAnswer(t, have, "\x01"+strings.Repeat("\x00", 21), "", api.ErrForm)
		expectAnswer(t, have, "\x01\x00"+long, "", api.ErrForm)
		expectAnswer(t, have, "\x01"+strings.Repeat("x", 4096), "", api.ErrForm)
		expectAnswer(t, have, "\x01"+strings.Repeat("x", 4097), "", api.ErrLarge)
		expectAnswer(t, have, "\x01"+strings.Repeat("\x00", 100000), "", api.ErrLarge)
		expectAnswer(t, have, strings.Repeat("\x00", 100000), "", api.ErrForm)
	}
}

// TestAnswerAtItsBounds: the byte ahead is not counted in what Wanted reads, nor is the answer's length bounded by that.
func TestAnswerAtItsBounds(t *testing.T) {
	name, quoted := strings.Repeat("\x00", 200), "\x00"+strings.Repeat("\x02\x00", 200)
	last := "\x00" + strings.Repeat("x", 85)
	ask := strings.Repeat(quoted, 10) + last
	have := []api.Var{{Name: name, Value: name, Set: true}}
	one := quoted + "\x01" + quoted[1:]
	expectAnswer(t, have, "\x01"+ask, "\x00"+strings.Repeat(one, 10)+last, api.OK)
	expectAnswer(t, nil, "\x01"+ask, "\x00"+ask, api.OK)
	expectAnswer(t, have, "\x01"+ask+"x", "", api.ErrLarge)
}

func TestAnswerOfTooMany(t *testing.T) {
	for n := range 21 {
		expectAnswer(t, vars(n), "\x01", "\x00"+text(vars(n)), api.OK)
		expectAnswer(t, vars(n), "\x01\x03\x00\x03", "\x00"+text(vars(n)), api.OK)
	}
	for _, n := range []int{21, 22, 256, 256 + 5, 100000} {
		expectAnswer(t, vars(n), "\x01", "", api.ErrLarge)
		expectAnswer(t, vars(n), "\x01\x00", "", api.ErrLarge)
		expectAnswer(t, vars(n), "\x01"+strings.Repeat("\x00", 20), "", api.ErrLarge)
		expectAnswer(t, vars(n), "\x01\x03", "\x00", api.OK)
	}
	for n := 1; n < 20; n++ {
		again, told := strings.Repeat("\x00V0", n), strings.Repeat("\x00V0\x010", n)
		none := strings.Repeat("\x03a", n)
		expectAnswer(t, vars(20-n), "\x01\x00"+none, "\x00"+text(vars(20-n))+none, api.OK)
		expectAnswer(t, vars(20-n), "\x01"+again+"\x00", "\x00"+told+text(vars(20-n)), api.OK)
		expectAnswer(t, vars(21-n), "\x01\x00"+none, "", api.ErrLarge)
		expectAnswer(t, vars(21-n), "\x01"+again+"\x00", "", api.ErrLarge)
		expectAnswer(t, vars(21-n), "\x01\x00"+again, "", api.ErrLarge)
	}
	expectAnswer(t, vars(10), "\x01\x00\x00", "\x00"+text(vars(10))+text(vars(10)), api.OK)
	expectAnswer(t, vars(11), "\x01\x00\x00", "", api.ErrLarge)
}

// TestAnswerMeetsErrors only in those variables that are asked for.
func TestAnswerMeetsErrors(t *testing.T) {
	for _, r := range badVars() {
		expectAnswer(t, r.l, "\x01", "", r.err)
		expectAnswer(t, r.l, "\x01\x03nobody", "\x00\x03nobody", api.OK)
		if len(r.l) == 20 {
			at := slices.IndexFunc(r.l, func(v api.Var) bool { return !v.Set || len(v.Value) > 200 })
			other := r.l[(at+1)%20]
			expectAnswer(t, r.l, "\x01\x00"+other.Name, "\x00\x00"+other.Name+"\x01"+other.Value, api.OK)
		}
	}
	large, form := api.Var{Name: "L", Value: strings.Repeat("x", 201), Set: true}, api.Var{Name: "F", Value: "x", User: true}
	have := []api.Var{form, {Name: "A", Value: "1", Set: true}, large, {Name: "B", User: true, Set: true}}
	for _, c := range []struct {
		ask, want string
		err       api.Errno
	}{
		{"\x00A\x03B", "\x00\x00A\x011\x03B\x01", api.OK},
		{"\x00F\x03L", "\x00\x00F\x03L", api.OK},
		{"\x00A\x00L", "", api.ErrLarge},
		{"\x03F\x03B", "", api.ErrForm},
		{"\x03F\x00L", "", api.ErrLarge},
		{"\x00L\x03F", "", api.ErrLarge},
		{"\x03", "", api.ErrForm},
		{"\x00", "", api.ErrLarge},
		{"", "", api.ErrLarge},
	} {
		expectAnswer(t, have, "\x01"+c.ask, c.want, c.err)
	}
	many := append([]api.Var{form}, vars(20)...)
	expectAnswer(t, many, "\x01\x03F\x00", "", api.ErrLarge)
	expectAnswer(t, many[:20], "\x01\x03F\x00", "", api.ErrForm)
}
