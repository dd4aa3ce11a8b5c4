package args_test

import (
	"slices"
	"strconv"
	"strings"
	"testing"

	"farwriter/api"
	"farwriter/args"
)

func expectRead(t *testing.T, s string, want []int, err api.Errno) {
	t.Helper()
	if l, e := args.Read(s); !slices.Equal(l, want) || e != err {
		t.Errorf("Read(%.200q of %d) = %v, %d; want %v, %d", s, len(s), l, e, want, err)
	}
}

// wantRead goes by P13.1's words.
func wantRead(s string) ([]int, api.Errno) {
	if strings.Trim(s, "0123456789;") != "" {
		return nil, api.ErrForm
	}
	var l []int
	for _, piece := range strings.Split(s, ";") {
		l = append(l, wantNumber(piece))
	}
	return l[:min(len(l), 32)], api.OK
}

func wantNumber(digits string) int {
	if digits == "" {
		return -1
	}
	bare := strings.TrimLeft(digits, "0")
	if len(bare) > 5 {
		return 16383
	}
	n := 0
	for _, d := range bare {
		n = n*10 + int(d) - 48
	}
	return min(n, 16383)
}

func TestRead(t *testing.T) {
	for _, c := range []struct {
		s    string
		want []int
	}{
		{"", []int{-1}},
		{"0", []int{0}},
		{"7", []int{7}},
		{"7;", []int{7, -1}},
		{";7", []int{-1, 7}},
		{";", []int{-1, -1}},
		{";;", []int{-1, -1, -1}},
		{"1;2", []int{1, 2}},
		{"10;203;4567", []int{10, 203, 4567}},
		{"1;;02;", []int{1, -1, 2, -1}},
		{"00;000;01;0010", []int{0, 0, 1, 10}},
		{"9;0;", []int{9, 0, -1}},
		{"16382;16383;16384", []int{16382, 16383, 16383}},
		{"99999;1;99999;;5", []int{16383, 1, 16383, -1, 5}},
	} {
		expectRead(t, c.s, c.want, api.OK)
	}
}

func TestReadEachNumber(t *testing.T) {
	for n := range 140000 {
		s := strconv.Itoa(n)
		want := min(n, 16383)
		expectRead(t, s, []int{want}, api.OK)
		expectRead(t, "00"+s+";"+s+";;"+s, []int{want, want, -1, want}, api.OK)
	}
}

// TestReadGreatNumbers: also of those that no int holds, and whose low bits are a small number's.
func TestReadGreatNumbers(t *testing.T) {
	for _, s := range []string{
		"16384", "20000", "65535", "65536", "65541", "100000", "163830", "1638300", "2147483647", "2147483648", "4294967296", "4294967301",
		"9223372036854775807", "9223372036854775808", "9223372036854775813", "18446744073709551615", "18446744073709551616", "18446744073709551621",
		"1" + strings.Repeat("0", 64), strings.Repeat("9", 1000), strings.Repeat("1", 100000),
	} {
		expectRead(t, s, []int{16383}, api.OK)
		expectRead(t, "000"+s+";3;"+s+";", []int{16383, 3, 16383, -1}, api.OK)
	}
	for _, n := range []int{1, 2, 20, 100, 100000} {
		noughts := strings.Repeat("0", n)
		expectRead(t, noughts, []int{0}, api.OK)
		expectRead(t, noughts+"5;"+noughts+"16383;"+noughts+"16384;"+noughts, []int{5, 16383, 16383, 0}, api.OK)
	}
}

// TestReadShortTexts: all of up to six of the bytes that matter.
func TestReadShortTexts(t *testing.T) {
	texts := []string{""}
	for range 6 {
		for _, s := range texts {
			want, e := wantRead(s)
			expectRead(t, s, want, e)
		}
		var longer []string
		for _, s := range texts {
			for _, b := range []string{"0", "1", "9", ";", ":"} {
				longer = append(longer, s+b)
			}
		}
		texts = longer
	}
	for _, s := range texts {
		want, e := wantRead(s)
		expectRead(t, s, want, e)
	}
}

// TestReadTheFirst of many numbers: no more than 32, and none of those behind.
func TestReadTheFirst(t *testing.T) {
	for _, n := range append(upTo(80), 255, 256, 257, 65536, 65536+3, 1<<20) {
		expectRead(t, strings.Repeat(";", n), repeated(-1, min(n+1, 32)), api.OK)
		expectRead(t, strings.Repeat("7;", n)+"7", repeated(7, min(n+1, 32)), api.OK)
		expectRead(t, strings.Repeat("7;", n), append(repeated(7, n), -1)[:min(n+1, 32)], api.OK)
	}
	for n := range 80 {
		var words []string
		var want []int
		for i := range n + 1 {
			words = append(words, strconv.Itoa(i*509))
			want = append(want, min(i*509, 16383))
		}
		expectRead(t, strings.Join(words, ";"), want[:min(n+1, 32)], api.OK)
	}
}

func upTo(n int) []int {
	var l []int
	for i := range n + 1 {
		l = append(l, i)
	}
	return l
}

func repeated(number, n int) []int {
	return slices.Repeat([]int{number}, n)
}

// TestReadEachByte alone, at all places among numbers, and behind as many of them as count.
func TestReadEachByte(t *testing.T) {
	for b := range 256 {
		one := string([]byte{byte(b)})
		for _, s := range []string{one, one + one, "1" + one, one + "1", "12" + one + "34", "1;" + one + ";2", ";" + one, one + ";", "99999" + one, one + strings.Repeat("9", 30)} {
			want, e := wantRead(s)
			expectRead(t, s, want, e)
		}
		for _, n := range []int{30, 31, 32, 33, 100, 1000} {
			for _, s := range []string{strings.Repeat("5;", n) + one, strings.Repeat(";", n) + one + ";1", one + strings.Repeat(";", n)} {
				want, e := wantRead(s)
				expectRead(t, s, want, e)
			}
		}
	}
}

func TestReadRefuses(t *testing.T) {
	for _, s := range []string{
		"1:2", ":", "-1", "+1", "1-", " 1", "1 ", "1; 2", "1,2", "1.5", "1_000", "0x10", "1e3", "a", "1a", "\n", "7;\n", "\x00", "1\x00",
		"\u0661", "\uff11", "\u00b2", "\u037e", "1\u0661", "\xff", "\xb0", "\xbb", "1;\xb1",
		strings.Repeat("9", 100000) + "x", strings.Repeat(";", 100000) + "x", "x" + strings.Repeat(";", 100000),
	} {
		expectRead(t, s, nil, api.ErrForm)
		expectRead(t, strings.Repeat("1;", 40)+s, nil, api.ErrForm)
		expectRead(t, s+strings.Repeat(";1", 40), nil, api.ErrForm)
	}
}
