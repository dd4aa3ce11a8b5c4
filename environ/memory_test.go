package environ_test

import (
	"slices"
	"testing"

	"farwriter/api"
	"farwriter/environ"
)

func mark() api.Var { return api.Var{Name: "mark", Value: "mark", User: true, Set: true} }

// told is all that Write and Answer may tell.
type told struct {
	s string
	e api.Errno
}

func calls() []func(have []api.Var) told {
	l := []func([]api.Var) told{func(have []api.Var) told { s, e := environ.Write(have); return told{s, e} }}
	for _, data := range []string{"", "\x01", "\x01\x00", "\x01\x03", "\x01\x03mark", "\x01\x03X\x00\x03", "\x01\x00V7\x03mark\x00nobody"} {
		l = append(l, func(have []api.Var) told { s, e := environ.Answer(have, data); return told{s, e} })
	}
	return l
}

// TestVariablesAreNotChanged, nor is the room behind them looked at, nor anything kept for the next call.
func TestVariablesAreNotChanged(t *testing.T) {
	for i, call := range calls() {
		for _, in := range [][]api.Var{nil, {}, known(), vars(1), vars(20), vars(21), {{Value: "x"}}} {
			want := call(slices.Clip(slices.Clone(in)))
			room := append(slices.Clone(in), mark(), mark(), mark())
			kept := slices.Clone(room)
			for range 2 {
				if got := call(room[:len(in)]); got != want {
					t.Errorf("call %d of %s tells %+v; without room behind the variables %+v", i, show(in), got, want)
				}
				call([]api.Var{mark()})
			}
			if !slices.Equal(room, kept) {
				t.Errorf("call %d changes what is handed in: %s", i, show(room))
			}
		}
	}
}

// TestReadIsNewMemory, the room behind it included.
func TestReadIsNewMemory(t *testing.T) {
	for _, read := range []func(string) ([]api.Var, api.Errno){environ.Read, environ.Wanted} {
		for _, s := range []string{"", "\x00", "\x00a\x03b\x02\x01", "\x00a\x03b\x00c\x00d\x00e", "\x00a\x01b"} {
			first, err := read(s)
			want := slices.Clone(first)
			second, _ := read(s)
			all := first[:cap(first)]
			for i := range all {
				all[i] = mark()
			}
			if !slices.Equal(second, want) {
				t.Errorf("two answers of %q share memory: %s", s, show(second))
			}
			if third, e := read(s); !slices.Equal(third, want) || e != err {
				t.Errorf("%q is read otherwise the next time: %s, %d", s, show(third), e)
			}
		}
	}
}
