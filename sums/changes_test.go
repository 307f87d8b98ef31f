package sums_test

import (
	"bytes"
	"encoding/binary"
	"hash/crc32"
	"slices"
	"testing"

	"limewash/api"
	"limewash/sums"
)

// checkPatch looks at b with the crc want by the bytes from at on.
func checkPatch(t *testing.T, b []byte, at int, want uint32) {
	t.Helper()
	before := slices.Clone(b)
	got, e := sums.Patch(b, at, want)
	if e != api.OK || len(got) != len(b) {
		t.Fatalf("Patch of %d bytes at %d is %d bytes, %d", len(b), at, len(got), e)
	}
	if !bytes.Equal(got[:at], b[:at]) || !bytes.Equal(got[at+4:], b[at+4:]) || sums.Crc(got) != want {
		t.Errorf("Patch of %v at %d for %d is %v", cut(b), at, want, cut(got))
	}
	for i := range got {
		got[i]++
	}
	if !bytes.Equal(b, before) {
		t.Errorf("Patch of %v has made %v of it", cut(before), cut(b))
	}
}

// TestPatch: P4.3, every place of strings of several lengths.
func TestPatch(t *testing.T) {
	for _, n := range []int{4, 5, 6, 7, 8, 9, 12, 40} {
		for at := range n - 3 {
			for _, want := range append(crcs(), sums.Crc(someBytes(n))) {
				checkPatch(t, someBytes(n), at, want)
				checkPatch(t, make([]byte, n), at, want)
			}
		}
	}
	for _, at := range []int{0, 1, 5000, 99995, 99996} {
		checkPatch(t, someBytes(100000), at, 1)
	}
}

// TestPatchOneWay: P4.3, the only way to the crc that there is already leaves all bytes; and each four bytes come back from their crc.
func TestPatchOneWay(t *testing.T) {
	for _, b := range samples() {
		for at := range max(0, len(b)-3) {
			got, e := sums.Patch(b, at, sums.Crc(b))
			if e != api.OK || !bytes.Equal(got, b) {
				t.Errorf("Patch of %v at %d for its crc is %v, %d", cut(b), at, cut(got), e)
			}
		}
	}
	for _, x := range crcs() {
		b := someBytes(20)
		for _, at := range []int{0, 7, 16} {
			want := slices.Clone(b)
			binary.LittleEndian.PutUint32(want[at:], x)
			if got, e := sums.Patch(b, at, sums.Crc(want)); e != api.OK || !bytes.Equal(got, want) {
				t.Errorf("Patch at %d is %v, %d, not %v", at, got, e, want)
			}
		}
	}
}

// TestPatchErrors: P4.3, places without four bytes.
func TestPatchErrors(t *testing.T) {
	for n := range 12 {
		first := max(0, n-3)
		for _, at := range append([]int{first, first + 1, first + 2, first + 3, first + 4, n + 4, -3, -4, -5, -n - 1}, far...) {
			for _, want := range []uint32{0, sums.Crc(someBytes(n)), 1} {
				if b, e := sums.Patch(someBytes(n), at, want); len(b) != 0 || e != api.ErrRange {
					t.Errorf("Patch of %d bytes at %d is %v, %d", n, at, b, e)
				}
			}
		}
	}
	if b, e := sums.Patch(nil, 0, 0); len(b) != 0 || e != api.ErrRange {
		t.Errorf("Patch of no bytes is %v, %d", b, e)
	}
}

// checkLocate compares Locate of b with a place and a value.
func checkLocate(t *testing.T, b []byte, want uint32, at int, value byte, e api.Errno) {
	t.Helper()
	before := slices.Clone(b)
	gotAt, gotValue, got := sums.Locate(b, want)
	if gotAt != at || gotValue != value || got != e {
		t.Errorf("Locate of %d bytes %v for %d is %d, %d, %d, not %d, %d, %d", len(b), cut(b), want, gotAt, gotValue, got, at, value, e)
	}
	if !bytes.Equal(b, before) {
		t.Errorf("Locate of %v has made %v of it", cut(before), cut(b))
	}
}

// TestLocateExamples: P4.4, the chapter's examples.
func TestLocateExamples(t *testing.T) {
	checkLocate(t, []byte("b"), 3904355907, 0, 'a', api.OK)
	checkLocate(t, []byte("a"), 3904355907, 0, 0, api.ErrTwice)
	checkLocate(t, nil, 1, 0, 0, api.ErrNone)
	checkLocate(t, nil, 0, 0, 0, api.ErrTwice)
}

// TestLocate: P4.4, every change of a byte is found.
func TestLocate(t *testing.T) {
	for n := range 14 {
		for _, b := range [][]byte{make([]byte, n), someBytes(n), bytes.Repeat([]byte{255}, n)} {
			for at, changed := range changes(b) {
				checkLocate(t, b, sums.Crc(changed), at, changed[at], api.OK)
			}
		}
	}
	long := someBytes(1000)
	for at := range long {
		for _, x := range []byte{1, 2, 16, 128, 255} {
			changed := slices.Clone(long)
			changed[at] ^= x
			checkLocate(t, long, sums.Crc(changed), at, changed[at], api.OK)
		}
	}
}

// place is an index of a byte, and its new value.
type place struct {
	at    int
	value byte
}

// TestLocateNone: P4.4, other crcs, looked up among those of all changes of a byte. No two changes have the same one, so the least index is the only one.
func TestLocateNone(t *testing.T) {
	for _, n := range []int{0, 1, 2, 5, 50, 1000} {
		b := someBytes(n)
		places := map[uint32]place{}
		for at, changed := range changes(b) {
			places[crc32.ChecksumIEEE(changed)] = place{at, changed[at]}
		}
		if len(places) != 255*n {
			t.Errorf("the changes of %d bytes have %d crcs", n, len(places))
		}
		wanted := crcs()
		for i := range n {
			changed := slices.Clone(b)
			changed[i] ^= 85
			changed[n-1-i/2]++
			wanted = append(wanted, sums.Crc(changed))
		}
		for _, want := range wanted {
			found, is := places[want]
			switch {
			case is:
				checkLocate(t, b, want, found.at, found.value, api.OK)
			case want == sums.Crc(b):
				checkLocate(t, b, want, 0, 0, api.ErrTwice)
			default:
				checkLocate(t, b, want, 0, 0, api.ErrNone)
			}
		}
	}
}

// TestLocateLess: P4.4, changes of two bytes, of bits on both sides of a byte's end, and of bytes that are not there.
func TestLocateLess(t *testing.T) {
	for _, n := range []int{2, 3, 10, 999, 1000} {
		b := someBytes(n)
		for i := range n - 1 {
			changed := slices.Clone(b)
			changed[i] ^= 128
			changed[i+1] ^= 1
			checkLocate(t, b, sums.Crc(changed), 0, 0, api.ErrNone)
			changed[i+1] ^= 1
			changed[n-1-i] ^= 129
			if i != n-1-i {
				checkLocate(t, b, sums.Crc(changed), 0, 0, api.ErrNone)
			}
		}
		// The crc with a changed byte more at the front, and at the end.
		other := sums.Crc(b) ^ sums.Crc(append([]byte{1}, b...)) ^ sums.Crc(append([]byte{0}, b...))
		checkLocate(t, b, other, 0, 0, api.ErrNone)
		checkLocate(t, b, sums.Crc(b)^1, 0, 0, api.ErrNone)
	}
}

// TestLocateErrors: P4.4, too many bytes come first, and then the crc that there is.
func TestLocateErrors(t *testing.T) {
	for _, b := range samples() {
		e := api.ErrTwice
		if len(b) > 1000 {
			e = api.ErrLong
		}
		checkLocate(t, b, sums.Crc(b), 0, 0, e)
	}
	for _, n := range []int{1001, 1002, 100000} {
		b := someBytes(n)
		checkLocate(t, b, sums.Crc(b), 0, 0, api.ErrLong)
		checkLocate(t, b, sums.Crc(b)^1, 0, 0, api.ErrLong)
		changed := slices.Clone(b)
		changed[0]++
		checkLocate(t, b, sums.Crc(changed), 0, 0, api.ErrLong)
	}
	checkLocate(t, someBytes(1000), sums.Crc(someBytes(1000)), 0, 0, api.ErrTwice)
}
