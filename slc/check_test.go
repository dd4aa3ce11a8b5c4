package slc_test

import (
	"testing"

	"farwriter/api"
	"farwriter/slc"
)

// mixed has each level several times, and another key for each function.
func mixed() api.Keys {
	var k api.Keys
	for f := 1; f <= 18; f++ {
		k.Levels[f], k.Chars[f] = byte(f%3), byte(f*13)
	}
	return k
}

// with is k, but for one function.
func with(k api.Keys, f int, level, char byte) api.Keys {
	k.Levels[f], k.Chars[f] = level, char
	return k
}

// noKeys has Keys of which each is wrong in one entry.
func noKeys() []api.Keys {
	var l []api.Keys
	for _, k := range []api.Keys{{}, mixed()} {
		for f := 1; f <= 18; f++ {
			for _, level := range []byte{3, 4, 5, 127, 128, 129, 130, 131, 254, 255} {
				l = append(l, with(k, f, level, k.Chars[f]))
			}
		}
		for _, b := range []byte{1, 2, 3, 127, 128, 255} {
			l = append(l, with(k, 0, b, 0), with(k, 0, 0, b), with(k, 0, b, b))
		}
	}
	return l
}

func TestCheck(t *testing.T) {
	for _, k := range []api.Keys{{}, mixed()} {
		if e := slc.Check(k); e != api.OK {
			t.Errorf("Check(%v) = %d", k, e)
		}
		for f := 1; f <= 18; f++ {
			for level := byte(0); level <= 2; level++ {
				for char := range 256 {
					if e := slc.Check(with(k, f, level, byte(char))); e != api.OK {
						t.Errorf("Check(%v) = %d", with(k, f, level, byte(char)), e)
					}
				}
			}
		}
	}
}

func TestCheckRefuses(t *testing.T) {
	for _, k := range noKeys() {
		if e := slc.Check(k); e != api.ErrForm {
			t.Errorf("Check(%v) = %d", k, e)
		}
	}
}

func expectAll(t *testing.T, k api.Keys, want string, err api.Errno) {
	t.Helper()
	if s, e := slc.All(k); s != want || e != err {
		t.Errorf("All(%v) = %x, %d; want %x, %d", k, s, e, want, err)
	}
}

func TestAllByHand(t *testing.T) {
	expectAll(t, api.Keys{}, "\x01\x00\x00\x02\x00\x00\x03\x00\x00\x04\x00\x00\x05\x00\x00\x06\x00\x00\x07\x00\x00\x08\x00\x00\x09\x00\x00"+
		"\x0a\x00\x00\x0b\x00\x00\x0c\x00\x00\x0d\x00\x00\x0e\x00\x00\x0f\x00\x00\x10\x00\x00\x11\x00\x00\x12\x00\x00", api.OK)
	k := with(with(with(with(api.Keys{}, 1, 1, 255), 10, 2, 127), 17, 0, 9), 18, 1, 128)
	expectAll(t, k, "\x01\x01\xff\x02\x00\x00\x03\x00\x00\x04\x00\x00\x05\x00\x00\x06\x00\x00\x07\x00\x00\x08\x00\x00\x09\x00\x00"+
		"\x0a\x02\x7f\x0b\x00\x00\x0c\x00\x00\x0d\x00\x00\x0e\x00\x00\x0f\x00\x00\x10\x00\x00\x11\x00\x09\x12\x01\x80", api.OK)
}

func TestAllOfEachFunction(t *testing.T) {
	for f := 1; f <= 18; f++ {
		for level := byte(0); level <= 2; level++ {
			for char := range 256 {
				k := with(mixed(), f, level, byte(char))
				var want []byte
				for g := byte(1); g <= 18; g++ {
					want = append(want, g, k.Levels[g], k.Chars[g])
				}
				expectAll(t, k, string(want), api.OK)
			}
		}
	}
}

func TestAllRefuses(t *testing.T) {
	for _, k := range noKeys() {
		expectAll(t, k, "", api.ErrForm)
	}
}
