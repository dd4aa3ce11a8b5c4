package iac_test

import (
	"math"
	"strings"
	"testing"

	"farwriter/api"
	"farwriter/iac"
)

// goodWires: at least one wire of each Mode, and those at the bounds.
func goodWires() []api.Wire {
	full := strings.Repeat("\xff", api.MaxSub)
	wires := []api.Wire{{}, {Mode: 1}, {Mode: 3}}
	for cmd := api.CWill; cmd <= api.CDont; cmd++ {
		wires = append(wires, api.Wire{Mode: 2, Cmd: cmd})
	}
	for mode := 4; mode <= 5; mode++ {
		for _, opt := range []int{0, 1, 254, 255} {
			wires = append(wires,
				api.Wire{Mode: mode, Opt: opt},
				api.Wire{Mode: mode, Opt: opt, Buf: "\x00"},
				api.Wire{Mode: mode, Opt: opt, Buf: full[1:]},
				api.Wire{Mode: mode, Opt: opt, Buf: full},
				api.Wire{Mode: mode, Opt: opt, Over: true})
		}
	}
	return wires
}

// badWires: wires with one thing wrong in each.
func badWires() []api.Wire {
	long := strings.Repeat("x", api.MaxSub+1)
	var wires []api.Wire
	for _, mode := range []int{math.MinInt, -1, 6, 7, 255, 256, math.MaxInt} {
		wires = append(wires, api.Wire{Mode: mode})
	}
	for _, cmd := range []int{math.MinInt, -5, 0, 1, 240, 250, 255, 251 + 256, math.MaxInt} {
		wires = append(wires, api.Wire{Mode: 2, Cmd: cmd})
	}
	for _, mode := range []int{0, 1, 3, 4, 5} {
		for _, cmd := range []int{math.MinInt, -1, 1, 251, 254, math.MaxInt} {
			wires = append(wires, api.Wire{Mode: mode, Cmd: cmd})
		}
	}
	for _, mode := range []int{4, 5} {
		for _, opt := range []int{math.MinInt, -1, 256, math.MaxInt} {
			wires = append(wires, api.Wire{Mode: mode, Opt: opt})
		}
		wires = append(wires,
			api.Wire{Mode: mode, Buf: long},
			api.Wire{Mode: mode, Buf: "x", Over: true},
			api.Wire{Mode: mode, Buf: long, Over: true})
	}
	for _, start := range []api.Wire{{}, {Mode: 1}, {Mode: 2, Cmd: api.CDo}, {Mode: 3}} {
		withOpt, withBuf, withOver := start, start, start
		withOpt.Opt, withBuf.Buf, withOver.Over = 1, "\x00", true
		wires = append(wires, withOpt, withBuf, withOver)
		withOpt.Opt = -1
		wires = append(wires, withOpt)
	}
	return wires
}

func TestCheckTakesGoodWires(t *testing.T) {
	for _, w := range goodWires() {
		if e := iac.Check(w); e != api.OK {
			t.Errorf("Check(%.80q) = %d", show(w), e)
		}
	}
}

func TestCheckRefusesBadWires(t *testing.T) {
	for _, w := range badWires() {
		if e := iac.Check(w); e != api.ErrForm {
			t.Errorf("Check(%.80q) = %d", show(w), e)
		}
	}
}
