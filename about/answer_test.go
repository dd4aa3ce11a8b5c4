package about_test

import (
	"slices"
	"testing"

	"farwriter/about"
	"farwriter/api"
)

func sameSorts(a, b api.Sorts) bool { return a.At == b.At && slices.Equal(a.Names, b.Names) }

func expectAnswer(t *testing.T, s api.Sorts, data string, want api.Sorts, text string, err api.Errno) {
	t.Helper()
	got, said, e := about.Answer(s, data)
	if !sameSorts(got, want) || said != text || e != err {
		t.Errorf("Answer(%.200q, At %d, %.40q) = %.200q, At %d, %q, %d; want %.200q, At %d, %q, %d",
			s.Names, s.At, data, got.Names, got.At, said, e, want.Names, want.At, text, err)
	}
}

func TestAnswersInARow(t *testing.T) {
	l := []string{"xterm", "vt220", "vt100"}
	for _, step := range []struct {
		at   int
		text string
		then int
	}{{0, "\x00xterm", 1}, {1, "\x00vt220", 2}, {2, "\x00vt100", 3}, {3, "\x00vt100", 0}} {
		expectAnswer(t, api.Sorts{Names: l, At: step.at}, "\x01", api.Sorts{Names: l, At: step.then}, step.text, api.OK)
	}
}

func TestAnswerOfOneName(t *testing.T) {
	l := []string{"dumb"}
	expectAnswer(t, api.Sorts{Names: l}, "\x01", api.Sorts{Names: l, At: 1}, "\x00dumb", api.OK)
	expectAnswer(t, api.Sorts{Names: l, At: 1}, "\x01", api.Sorts{Names: l}, "\x00dumb", api.OK)
}

func TestAnswerAtEachPlace(t *testing.T) {
	for _, s := range goodSorts() {
		then := api.Sorts{Names: s.Names, At: s.At + 1}
		text := "\x00" + s.Names[min(s.At, len(s.Names)-1)]
		if s.At == len(s.Names) {
			then.At = 0
		}
		expectAnswer(t, s, "\x01", then, text, api.OK)
	}
}

// noAsks has words that don't ask for a sort.
func noAsks() []string {
	l := []string{"", "1", "\x01\x01", "\x01\x00", "\x00\x01", "\x01xterm", "\x00xterm"}
	for b := range 256 {
		if b != 1 {
			l = append(l, string([]byte{byte(b)}))
		}
	}
	return l
}

func TestAnswerRefusesOtherWords(t *testing.T) {
	for _, s := range goodSorts() {
		for _, data := range noAsks() {
			expectAnswer(t, s, data, s, "", api.ErrForm)
		}
	}
}

// TestAnswerRefusesBadSorts also where the words are wrong: what Check says is told first.
func TestAnswerRefusesBadSorts(t *testing.T) {
	for _, r := range badSorts() {
		for _, data := range []string{"\x01", "", "\x00", "\x01\x01"} {
			expectAnswer(t, r.sorts, data, r.sorts, "", r.err)
		}
	}
}
