package sums_test

import (
	"testing"

	"limewash/api"
	"limewash/sums"
)

// counts are numbers of bytes: all small ones, those next to powers of 2, and the greatest ones.
func counts() []int {
	var l []int
	for n := range 300 {
		l = append(l, n)
	}
	for n := 512; n < 1000000; n *= 2 {
		l = append(l, n-1, n, n+1)
	}
	return append(l, 1000, 99999, 500000, 777777, 999998, 999999, 1000000)
}

// TestZeros: P4.2, bytes 0 of every number, from any number.
func TestZeros(t *testing.T) {
	zeros := make([]byte, 1000000)
	for i, h := range crcs() {
		for _, n := range counts() {
			// Many bytes are slow to go on with.
			if n > 5000 && i > 2 {
				continue
			}
			got, e := sums.Zeros(h, n)
			if want := sums.On(h, zeros[:n]); got != want || e != api.OK {
				t.Errorf("Zeros(%d, %d) is %d, %d, not %d", h, n, got, e, want)
			}
		}
	}
}

// TestZerosSum: P4.2, bytes 0 after bytes 0.
func TestZerosSum(t *testing.T) {
	for _, h := range crcs() {
		for _, n := range counts() {
			half, e := sums.Zeros(h, n/3)
			all, f := sums.Zeros(half, n-n/3)
			want, g := sums.Zeros(h, n)
			if all != want || e != api.OK || f != api.OK || g != api.OK {
				t.Errorf("Zeros of Zeros(%d, %d) is %d, not %d", h, n, all, want)
			}
		}
	}
}

// TestCombine: P4.2, all samples cut everywhere, and the chapter's example.
func TestCombine(t *testing.T) {
	for _, b := range samples() {
		for i := range len(b) + 1 {
			h, e := sums.Combine(sums.Crc(b[:i]), sums.Crc(b[i:]), len(b)-i)
			if h != sums.Crc(b) || e != api.OK {
				t.Errorf("Combine of %d of %d bytes %v is %d, %d, not %d", i, len(b), cut(b), h, e, sums.Crc(b))
			}
		}
	}
	if h, e := sums.Combine(sums.Crc([]byte("1234")), sums.Crc([]byte("56789")), 5); h != 3421780262 || e != api.OK {
		t.Errorf("Combine of the example is %d, %d", h, e)
	}
	long := someBytes(1000500)
	if h, e := sums.Combine(sums.Crc(long[:500]), sums.Crc(long[500:]), 1000000); h != sums.Crc(long) || e != api.OK {
		t.Errorf("Combine with 1000000 bytes is %d, %d, not %d", h, e, sums.Crc(long))
	}
}

// TestCombineAny: P4.2, numbers that need not be crcs of so many bytes.
func TestCombineAny(t *testing.T) {
	zeros := make([]byte, 5000)
	for _, n := range []int{0, 1, 2, 3, 4, 5, 31, 32, 33, 4999, 5000} {
		for _, a := range crcs() {
			for _, b := range crcs() {
				want := sums.On(a, zeros[:n]) ^ sums.On(0, zeros[:n]) ^ b
				if h, e := sums.Combine(a, b, n); h != want || e != api.OK {
					t.Errorf("Combine(%d, %d, %d) is %d, %d, not %d", a, b, n, h, e, want)
				}
			}
		}
	}
}

// TestZerosErrors: P4.2, numbers of bytes that are too small or too great.
func TestZerosErrors(t *testing.T) {
	for _, n := range far {
		for _, h := range crcs() {
			if got, e := sums.Zeros(h, n); got != 0 || e != api.ErrRange {
				t.Errorf("Zeros(%d, %d) is %d, %d", h, n, got, e)
			}
			if got, e := sums.Combine(h, ^h, n); got != 0 || e != api.ErrRange {
				t.Errorf("Combine(%d, %d, %d) is %d, %d", h, ^h, n, got, e)
			}
		}
	}
}
