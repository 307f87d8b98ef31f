package sums_test

import (
	"bytes"
	"testing"

	"limewash/api"
	"limewash/sums"
)

// TestMixExamples: P4.5, the chapter's examples.
func TestMixExamples(t *testing.T) {
	for text, want := range map[string]uint64{"": 1, "a": 420906795106, "ab": 1262720385220, "\x00": 1<<32 + 1, "\x00\x00": 2<<32 + 1, "\xff": 256<<32 + 256} {
		if h := sums.Mix([]byte(text)); h != want {
			t.Errorf("Mix(%q) is %d, not %d", text, h, want)
		}
	}
	h, e := sums.Roll(sums.Mix([]byte("ab")), 2, 'a', 'c')
	if h != sums.Mix([]byte("bc")) || e != api.OK {
		t.Errorf("Roll of the mix of ab is %d, %d", h, e)
	}
}

// TestMix: P4.5, the mixes of all samples, and of so many bytes that B passes SmPrime.
func TestMix(t *testing.T) {
	for _, b := range append(samples(), someBytes(300000), bytes.Repeat([]byte{255}, 20000)) {
		if h := sums.Mix(b); h != mixOn(1, b) {
			t.Errorf("Mix of %d bytes %v is %d, not %d", len(b), cut(b), h, mixOn(1, b))
		}
	}
}

// TestMixOn: P4.5, going on from mixes whose halves are at both ends.
func TestMixOn(t *testing.T) {
	for _, h := range mixes() {
		for _, b := range samples() {
			if got, e := sums.MixOn(h, b); got != mixOn(h, b) || e != api.OK {
				t.Errorf("MixOn(%d) of %d bytes %v is %d, %d, not %d", h, len(b), cut(b), got, e, mixOn(h, b))
			}
		}
	}
}

// TestMixOnParts: P4.5, going on from the first bytes with the others leads to the mix of all of them, wherever they are cut.
func TestMixOnParts(t *testing.T) {
	for _, b := range samples() {
		for i := range len(b) + 1 {
			if h, e := sums.MixOn(sums.Mix(b[:i]), b[i:]); h != sums.Mix(b) || e != api.OK {
				t.Errorf("MixOn of %d of %d bytes %v is %d, %d, not %d", i, len(b), cut(b), h, e, sums.Mix(b))
			}
		}
	}
}

// TestRoll: P4.5, mixes whose halves are at both ends, with the least and most bytes.
func TestRoll(t *testing.T) {
	for _, h := range mixes() {
		for _, n := range []int{1, 2, 3, 254, 255, 256, 1000, 999999, 1000000} {
			for _, out := range []byte{0, 1, 2, 127, 128, 254, 255} {
				for _, in := range []byte{0, 1, 2, 127, 128, 254, 255} {
					want := rolled(h, n, out, in)
					if got, e := sums.Roll(h, n, out, in); got != want || e != api.OK {
						t.Errorf("Roll(%d, %d, %d, %d) is %d, %d, not %d", h, n, out, in, got, e, want)
					}
				}
			}
		}
	}
}

// TestRollAlong: P4.8, windows of bytes are rolled along all of them.
func TestRollAlong(t *testing.T) {
	b := someBytes(8000)
	for _, n := range []int{1, 2, 3, 10, 500, 7000} {
		h := sums.Mix(b[:n])
		for i := range min(500, len(b)-n) {
			var e api.Errno
			h, e = sums.Roll(h, n, b[i], b[i+n])
			if want := sums.Mix(b[i+1 : i+1+n]); h != want || e != api.OK {
				t.Fatalf("Roll of %d bytes from %d on is %d, %d, not %d", n, i, h, e, want)
			}
		}
	}
	long := bytes.Repeat([]byte{255}, 1000001)
	long[0], long[1000000] = 254, 7
	if h, e := sums.Roll(sums.Mix(long[:1000000]), 1000000, 254, 7); h != sums.Mix(long[1:]) || e != api.OK {
		t.Errorf("Roll of 1000000 bytes is %d, %d, not %d", h, e, sums.Mix(long[1:]))
	}
}

// TestMixErrors: P4.5, numbers that are no mixes come before numbers of bytes that Roll does not have.
func TestMixErrors(t *testing.T) {
	for _, h := range noMixes() {
		for _, b := range [][]byte{nil, []byte("a"), someBytes(100)} {
			if got, e := sums.MixOn(h, b); got != 0 || e != api.ErrForm {
				t.Errorf("MixOn(%d) of %d bytes is %d, %d", h, len(b), got, e)
			}
		}
		for _, n := range append([]int{0, 1, 1000000}, far...) {
			if got, e := sums.Roll(h, n, 1, 2); got != 0 || e != api.ErrForm {
				t.Errorf("Roll(%d, %d, 1, 2) is %d, %d", h, n, got, e)
			}
		}
	}
	for _, h := range mixes() {
		for _, n := range append([]int{0}, far...) {
			if got, e := sums.Roll(h, n, 1, 2); got != 0 || e != api.ErrRange {
				t.Errorf("Roll(%d, %d, 1, 2) is %d, %d", h, n, got, e)
			}
		}
	}
}

// TestMixDiffers: P4.8, strings that differ in one byte have other mixes.
func TestMixDiffers(t *testing.T) {
	for _, b := range [][]byte{make([]byte, 1), []byte("a"), make([]byte, 9), someBytes(30), bytes.Repeat([]byte{255}, 100)} {
		for at, changed := range changes(b) {
			if sums.Mix(b) == sums.Mix(changed) {
				t.Errorf("Mix of %d bytes %v is that of others with %d at %d", len(b), cut(b), changed[at], at)
			}
		}
	}
}
