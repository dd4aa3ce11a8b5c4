package line_test

import (
	"slices"
	"testing"

	"farwriter/api"
	"farwriter/line"
)

// mixture is so many bytes of all sorts: signs, blanks, keys, ends.
func mixture(n, seed int) string {
	sorts := "ab  c\x7f\x17\x15\x12\x16\r\n$%#d\xff\x00 ef"
	var l []byte
	x := uint32(seed)*2654435761 + 1
	for range n {
		x = x*1664525 + 1013904223
		at := int(x >> 24)
		if at < 200 {
			l = append(l, sorts[at%len(sorts)])
		} else {
			l = append(l, byte(x>>16))
		}
	}
	return string(l)
}

// oneKey has several functions with the same key, and others without one.
func oneKey(seed int) api.Keys {
	k := usual()
	for i, f := range []int{10, 11, 12, 13, 14, 17, 18} {
		k.Levels[f] = byte(seed >> i % 3)
		k.Chars[f] = "\x7fa\r\x12 \n"[(seed*(i+3))%6]
	}
	return k
}

func TestTypeOfMixtures(t *testing.T) {
	for seed := range 103 {
		s := mixture(seed*40, seed)
		e := api.Editor{Buf: mixture(seed*37%1024, seed+1), Quote: seed%5 == 0}
		for _, k := range []api.Keys{{}, usual(), oneKey(seed)} {
			m := marks(mixture(seed%4, seed+2))
			expect(t, e, k, m, s, wantTyped(e, k, m, s))
		}
	}
}

// TestPiecesAreNoMatter: in whichever pieces a line is typed, the same is sent and shown.
func TestPiecesAreNoMatter(t *testing.T) {
	for seed := range 60 {
		s, e := mixture(2500, seed), api.Editor{Buf: mixture(seed*17, seed), Quote: seed%2 == 0}
		m := marks("#")
		whole := typed(e, usual(), m, s)
		for _, size := range []int{1, 2, 3, 7, 100, 1024, 2499, 2500} {
			sum := told{e: e}
			for piece := range slices.Chunk([]byte(s), size) {
				one := typed(sum.e, usual(), m, string(piece))
				sum.e, sum.lines, sum.echo = one.e, append(sum.lines, one.lines...), sum.echo+one.echo
				if one.err != api.OK || line.Check(one.e) != api.OK {
					t.Fatalf("behind %q: %v", piece, one)
				}
			}
			if !same(sum, whole) {
				t.Fatalf("pieces of %d: %v; in one: %v", size, sum, whole)
			}
		}
	}
}

// TestNothingIsKept from line to line, nor does it matter what is written over the lines that were told.
func TestNothingIsKept(t *testing.T) {
	for seed := range 60 {
		s, e := mixture(2000, seed), api.Editor{Buf: mixture(seed*3, seed), Quote: seed%3 == 0}
		first := typed(e, usual(), marks("#"), s)
		kept := told{first.e, slices.Clone(first.lines), first.echo, first.err}
		room := first.lines[:cap(first.lines)]
		for i := range room {
			room[i] = "other"
		}
		typed(api.Editor{Buf: "other", Quote: true}, oneKey(6), marks("ab"), "more\r"+s)
		expect(t, e, usual(), marks("#"), s, kept)
	}
}
