package records_test

import (
	"bytes"
	"hash/crc32"
	"math"
	"math/rand"
	"slices"
	"testing"

	"limewash/api"
	"limewash/records"
)

// someBytes are n bytes without an order, the same in each call.
func someBytes(n int) []byte {
	b := make([]byte, n)
	rand.New(rand.NewSource(int64(n))).Read(b)
	return b
}

// plains are bytes that are sealed and filled up.
func plains() [][]byte {
	l := [][]byte{nil, {}, {0}, {1}, {1, 0}, {0, 1}, {0, 0, 0, 0}, {255, 255, 255, 255}, make([]byte, 200)}
	for n := range 40 {
		l = append(l, someBytes(n))
	}
	return append(l, someBytes(399), someBytes(3998), someBytes(3999))
}

// fresh looks whether a result is kept when the argument b is changed, and b when the result is.
func fresh(t *testing.T, b, got []byte) {
	t.Helper()
	before, want := slices.Clone(b), slices.Clone(got)
	for i := range b {
		b[i]++
	}
	if !bytes.Equal(got, want) {
		t.Errorf("what was made of %v has become %v", before, got)
	}
	copy(b, before)
	for i := range got[:cap(got)] {
		got[:cap(got)][i]++
	}
	if !bytes.Equal(b, before) {
		t.Errorf("%v has become %v", before, b)
	}
}

// TestSeal: P5.4, P5.8, P5.9, bytes are followed by their crc, the lowest byte first, and opened again.
func TestSeal(t *testing.T) {
	for _, b := range append(plains(), someBytes(100000)) {
		crc := crc32.ChecksumIEEE(b)
		want := append(slices.Clone(b), byte(crc), byte(crc>>8), byte(crc>>16), byte(crc>>24))
		sealed := records.Seal(b)
		if !bytes.Equal(sealed, want) {
			t.Fatalf("Seal of %v is %v, not %v", b, sealed, want)
		}
		opened, e := records.Open(sealed)
		if !bytes.Equal(opened, b) || e != api.OK {
			t.Errorf("Open of Seal of %v is %v, %d", b, opened, e)
		}
		fresh(t, sealed, opened)
		fresh(t, b, records.Seal(b))
	}
	if b := records.Seal([]byte("a")); !bytes.Equal(b, []byte{'a', 0x43, 0xbe, 0xb7, 0xe8}) {
		t.Errorf("Seal of a is %v", b)
	}
}

// TestSealRoom: P5.9, the memory after the bytes is not written.
func TestSealRoom(t *testing.T) {
	b := []byte("abcdefghij")
	records.Seal(b[:3])
	records.Pad(b[:3], 10)
	if string(b) != "abcdefghij" {
		t.Errorf("Seal or Pad has made %q of it", b)
	}
}

// TestOpenErrors: P5.4, too few bytes, and bytes that are not sealed.
func TestOpenErrors(t *testing.T) {
	for n := range 4 {
		for _, b := range [][]byte{make([]byte, n), someBytes(n), slices.Repeat([]byte{255}, n)} {
			if opened, e := records.Open(b); len(opened) != 0 || e != api.ErrMore {
				t.Errorf("Open of %v is %v, %d", b, opened, e)
			}
		}
	}
	if opened, e := records.Open(nil); len(opened) != 0 || e != api.ErrMore {
		t.Errorf("Open of no bytes is %v, %d", opened, e)
	}
	if opened, e := records.Open(make([]byte, 4)); len(opened) != 0 || e != api.OK {
		t.Errorf("Open of the crc of no bytes is %v, %d", opened, e)
	}
	sealed := records.Seal([]byte("abcdef"))
	for _, b := range [][]byte{sealed[1:], sealed[:len(sealed)-1], sealed[:4], append(slices.Clone(sealed), 0), {0, 0, 0, 1}, {1, 0, 0, 0}, make([]byte, 5), make([]byte, 4000)} {
		if opened, e := records.Open(b); len(opened) != 0 || e != api.ErrForm {
			t.Errorf("Open of %v is %v, %d", b, opened, e)
		}
	}
}

// TestChangedSeals: P5.8, sealed bytes with one to four changed bytes in a row are not opened.
func TestChangedSeals(t *testing.T) {
	r := rand.New(rand.NewSource(4))
	for _, n := range []int{0, 1, 2, 5, 30, 96, 500} {
		sealed := records.Seal(someBytes(n))
		for at := range sealed {
			for many := 1; many <= 4 && at+many <= len(sealed); many++ {
				for range 8 {
					b := slices.Clone(sealed)
					for i := range many {
						b[at+i] ^= byte(1 + r.Intn(255))
					}
					if opened, e := records.Open(b); len(opened) != 0 || e != api.ErrForm {
						t.Fatalf("Open of %d sealed bytes, %d changed from %d on, is %v, %d", n, many, at, opened, e)
					}
				}
			}
			for x := range 8 {
				b := slices.Clone(sealed)
				b[at] ^= 1 << x
				if _, e := records.Open(b); e != api.ErrForm {
					t.Fatalf("Open of %d sealed bytes, the bit %d of %d changed, is %d", n, x, at, e)
				}
			}
		}
	}
}

// TestPad: P5.5, P5.8, P5.9, bytes are filled up to several lengths, and come back.
func TestPad(t *testing.T) {
	for _, b := range plains() {
		for _, more := range []int{1, 2, 3, 7, 100, 4000 - len(b)} {
			n := len(b) + more
			if n > 4000 {
				continue
			}
			want := append(append(slices.Clone(b), 1), make([]byte, more-1)...)
			filled, e := records.Pad(b, n)
			if !bytes.Equal(filled, want) || e != api.OK {
				t.Fatalf("Pad of %v to %d is %v, %d", b, n, filled, e)
			}
			plain, e := records.Unpad(filled)
			if !bytes.Equal(plain, b) || e != api.OK {
				t.Errorf("Unpad of Pad of %v to %d is %v, %d", b, n, plain, e)
			}
			fresh(t, filled, plain)
			fresh(t, b, filled)
		}
	}
	if b, e := records.Pad([]byte{5}, 3); !bytes.Equal(b, []byte{5, 1, 0}) || e != api.OK {
		t.Errorf("Pad of 5 to 3 is %v, %d", b, e)
	}
}

// TestPadErrors: P5.5, lengths out of range, which come first, and bytes without room.
func TestPadErrors(t *testing.T) {
	for _, n := range []int{0, -1, -4000, 4001, 4002, 1 << 32, 1<<32 + 5, math.MaxInt, math.MinInt} {
		for _, b := range [][]byte{nil, {1}, make([]byte, 4000), make([]byte, 4001), make([]byte, 5000)} {
			if filled, e := records.Pad(b, n); len(filled) != 0 || e != api.ErrRange {
				t.Errorf("Pad of %d bytes to %d is %v, %d", len(b), n, filled, e)
			}
		}
	}
	for _, n := range []int{1, 2, 10, 3999, 4000} {
		for _, more := range []int{0, 1, 2, 1000} {
			if filled, e := records.Pad(make([]byte, n+more), n); len(filled) != 0 || e != api.ErrLong {
				t.Errorf("Pad of %d bytes to %d is %v, %d", n+more, n, filled, e)
			}
		}
		if filled, e := records.Pad(make([]byte, n-1), n); len(filled) != n || e != api.OK {
			t.Errorf("Pad of %d bytes to %d is %v, %d", n-1, n, filled, e)
		}
	}
}

// TestUnpad: P5.5, the bytes before the last byte that is not 0, if it is 1; there is no limit of their length.
func TestUnpad(t *testing.T) {
	for _, x := range []struct {
		b, want []byte
		e       api.Errno
	}{
		{[]byte{5, 1, 0}, []byte{5}, api.OK},
		{[]byte{5, 0}, nil, api.ErrForm},
		{nil, nil, api.ErrForm},
		{[]byte{0}, nil, api.ErrForm},
		{make([]byte, 5000), nil, api.ErrForm},
		{[]byte{1}, nil, api.OK},
		{[]byte{1, 0, 0}, nil, api.OK},
		{[]byte{1, 1}, []byte{1}, api.OK},
		{[]byte{0, 1}, []byte{0}, api.OK},
		{[]byte{0, 0, 1, 0}, []byte{0, 0}, api.OK},
		{[]byte{1, 2}, nil, api.ErrForm},
		{[]byte{1, 2, 0}, nil, api.ErrForm},
		{[]byte{1, 0, 2}, nil, api.ErrForm},
		{[]byte{1, 128, 0}, nil, api.ErrForm},
		{append(make([]byte, 5000), 1), make([]byte, 5000), api.OK},
		{append([]byte{7, 1}, make([]byte, 5000)...), []byte{7}, api.OK},
	} {
		if got, e := records.Unpad(x.b); !bytes.Equal(got, x.want) || e != x.e {
			t.Errorf("Unpad of %v is %v, %d, not %v, %d", x.b, got, e, x.want, x.e)
		}
	}
	for c := 2; c < 256; c++ {
		for _, b := range [][]byte{{byte(c)}, {byte(c), 0}, {1, byte(c), 0, 0}} {
			if got, e := records.Unpad(b); len(got) != 0 || e != api.ErrForm {
				t.Errorf("Unpad of %v is %v, %d", b, got, e)
			}
		}
	}
}
