package sums_test

import (
	"bytes"
	"hash/crc32"
	"math/rand"
	"slices"
	"testing"

	"limewash/api"
	"limewash/sums"
)

// TestCrcExamples: P4.1, the chapter's examples, and strings whose crcs are known.
func TestCrcExamples(t *testing.T) {
	for text, want := range map[string]uint32{
		"":                 0,
		"a":                3904355907,
		"123456789":        3421780262,
		"\x00":             0xd202ef8d,
		"\x00\x00\x00\x00": 0x2144df1c,
		"\xff\xff\xff\xff": 0xffffffff,
		"The quick brown fox jumps over the lazy dog": 0x414fa339,
	} {
		if h := sums.Crc([]byte(text)); h != want {
			t.Errorf("Crc(%q) is %d, not %d", text, h, want)
		}
	}
	if h := sums.On(3904355907, nil); h != 3904355907 {
		t.Errorf("On(3904355907) of no bytes is %d", h)
	}
}

// TestCrc: P4.1, the crcs of all samples, of all two bytes, and of many bytes.
func TestCrc(t *testing.T) {
	l := append(samples(), someBytes(1<<20))
	for i := range 1 << 16 {
		l = append(l, []byte{byte(i >> 8), byte(i)})
	}
	for _, b := range l {
		if h := sums.Crc(b); h != crcOn(0, b) || h != crc32.ChecksumIEEE(b) {
			t.Errorf("Crc of %d bytes %v is %d, not %d", len(b), cut(b), h, crcOn(0, b))
		}
	}
}

// TestOn: P4.1, going on from any number with all samples.
func TestOn(t *testing.T) {
	for _, h := range crcs() {
		for _, b := range samples() {
			if got := sums.On(h, b); got != crcOn(h, b) {
				t.Errorf("On(%d) of %d bytes %v is %d, not %d", h, len(b), cut(b), got, crcOn(h, b))
			}
		}
	}
}

// TestOnParts: P4.1, going on from the first bytes with the others leads to the crc of all of them, wherever they are cut.
func TestOnParts(t *testing.T) {
	for _, b := range samples() {
		for i := range len(b) + 1 {
			if h := sums.On(sums.Crc(b[:i]), b[i:]); h != sums.Crc(b) {
				t.Errorf("On of %d of %d bytes %v is %d, not %d", i, len(b), cut(b), h, sums.Crc(b))
			}
		}
	}
}

// TestBursts: P4.6, what differs within 32 bits in a row, at each bit of a string, has another crc.
func TestBursts(t *testing.T) {
	random := rand.New(rand.NewSource(46))
	var bursts []uint32
	for i := 1; i < 1<<9; i++ {
		bursts = append(bursts, uint32(i))
	}
	for i := range 32 {
		bursts = append(bursts, 1|1<<i, 1<<(31-i)|1<<31, 1<<32-1-1<<i, random.Uint32()|1)
	}
	for _, b := range [][]byte{make([]byte, 12), someBytes(12), someBytes(40)} {
		for _, burst := range bursts {
			for at := range len(b)*8 - 31 {
				other := slices.Clone(b)
				for i := range 32 {
					other[(at+i)/8] ^= byte(burst>>i&1) << ((at + i) % 8)
				}
				if bytes.Equal(b, other) || sums.Crc(b) == sums.Crc(other) {
					t.Errorf("Crc of %v is that of %v", cut(b), cut(other))
				}
			}
		}
	}
}

// TestThree: P4.7, the crc of three strings' xor is the xor of their crcs.
func TestThree(t *testing.T) {
	for n := range 200 {
		b := someBytes(3 * n)
		x, y, z := b[:n], b[n:2*n], b[2*n:]
		all := make([]byte, n)
		for i := range all {
			all[i] = x[i] ^ y[i] ^ z[i]
		}
		if h := sums.Crc(x) ^ sums.Crc(y) ^ sums.Crc(z); h != sums.Crc(all) {
			t.Errorf("the xor of crcs is %d, not %d", h, sums.Crc(all))
		}
	}
}

// TestMemory: P4.9, R3 and R6: arguments stay as they are, nothing of them is kept, and a call again has the same results.
func TestMemory(t *testing.T) {
	whole := []byte("0123456789ab")
	b := whole[:9]
	mix, crc := sums.Mix(b), sums.Crc(b)
	changed := someBytes(9)
	all := func() []uint64 {
		patched, e := sums.Patch(b, 3, 7)
		zeros, f := sums.Zeros(crc, 5)
		joined, g := sums.Combine(crc, crc, 9)
		mixed, h := sums.MixOn(mix, b)
		rolled, i := sums.Roll(mix, 9, '0', 'x')
		at, value, j := sums.Locate(b, sums.Crc(append([]byte("1"), b[1:]...)))
		if e != api.OK || f != api.OK || g != api.OK || h != api.OK || i != api.OK || j != api.OK {
			t.Fatalf("errors %d, %d, %d, %d, %d, %d", e, f, g, h, i, j)
		}
		l := []uint64{uint64(sums.Crc(b)), uint64(sums.On(crc, b)), uint64(zeros), uint64(joined), sums.Mix(b), mixed, rolled, uint64(at), uint64(value), uint64(sums.Crc(patched))}
		// What is done to a result may not be seen anywhere else.
		copy(patched[:cap(patched)], changed)
		return l
	}
	first := all()
	if again := all(); !slices.Equal(first, again) {
		t.Errorf("the results are %v, and then %v", first, again)
	}
	if string(whole) != "0123456789ab" {
		t.Errorf("the argument has become %q", whole)
	}
}
