package blocks_test

import (
	"bytes"
	"math/rand"
	"slices"
	"testing"

	"limewash/api"
	"limewash/blocks"
)

// checkBytes compares Encode of s with the bytes wanted, and Decode of these with s.
func checkBytes(t *testing.T, s api.BkState, want []byte) {
	t.Helper()
	before := copyOf(s)
	b, e := blocks.Encode(s)
	if !bytes.Equal(b, want) || e != api.OK {
		t.Fatalf("Encode of %v is %v, %d, not %v", s, b, e, want)
	}
	g, e := blocks.Decode(s.Layout, b)
	if !same(g, before) || e != api.OK {
		t.Fatalf("Decode of %v is %v, %d, not %v", b, g, e, before)
	}
	if !bytes.Equal(b, want) || !same(s, before) {
		t.Fatalf("Encode or Decode has changed %v, or its bytes", before)
	}
}

// TestBytesAll: P8.6, P8.9, all states of 8 and of 14 blocks.
func TestBytesAll(t *testing.T) {
	for s := range states(with8, 8) {
		checkBytes(t, s, bitmapOf(s))
	}
	for s := range states(with14, 14) {
		checkBytes(t, s, bitmapOf(s))
	}
}

// TestBytes: P8.6, P8.9, states of all sizes.
func TestBytes(t *testing.T) {
	r := rand.New(rand.NewSource(12))
	for range 20 {
		for l, n := range layouts {
			for _, s := range someStates(r, l, n) {
				checkBytes(t, s, bitmapOf(s))
			}
		}
	}
}

// TestBits: P8.6, each bit of the bytes alone, and with those of all blocks: it is one of a block, or an error.
func TestBits(t *testing.T) {
	for l, n := range layouts {
		all := bitmapOf(api.BkState{Used: slices.Repeat([]bool{true}, n)})
		for bit := range 96 * 8 {
			one := make([]byte, 96)
			one[bit/8] = 1 << (bit % 8)
			want, wantE := fresh(t, l), api.OK
			if bit < n {
				want.Used[bit] = true
			} else {
				want, wantE = api.BkState{}, api.ErrForm
			}
			if g, e := blocks.Decode(l, one); !same(g, want) || e != wantE {
				t.Errorf("Decode of %v with the bit %d is %v, %d, not %v, %d", l, bit, g, e, want, wantE)
			}
			more := bytes.Clone(all)
			more[bit/8] |= 1 << (bit % 8)
			if _, e := blocks.Decode(l, more); e != wantE {
				t.Errorf("Decode of %v with all blocks and the bit %d is %d, not %d", l, bit, e, wantE)
			}
		}
	}
}

// TestLengths: P8.6, bytes of all other lengths, also such with wrong bits.
func TestLengths(t *testing.T) {
	for l := range layouts {
		for n := range 300 {
			if n == 96 {
				continue
			}
			for _, b := range [][]byte{make([]byte, n), bytes.Repeat([]byte{255}, n)} {
				if g, e := blocks.Decode(l, b); !same(g, api.BkState{}) || e != api.ErrLong {
					t.Errorf("Decode of %v, %d bytes is %v, %d", l, n, g, e)
				}
			}
		}
		if g, e := blocks.Decode(l, nil); !same(g, api.BkState{}) || e != api.ErrLong {
			t.Errorf("Decode of %v without bytes is %v, %d", l, g, e)
		}
	}
}

// TestBytesApart: P8.9, bytes and states share no memory, and bytes that are given stay as they are.
func TestBytesApart(t *testing.T) {
	s := api.BkState{Layout: with14, Used: pattern(14, 4)}
	before := copyOf(s)
	b, _ := blocks.Encode(s)
	other, _ := blocks.Encode(s)
	given, rest := roomy(b)
	g, e := blocks.Decode(with14, given)
	if e != api.OK || !bytes.Equal(given, other) {
		t.Fatalf("Decode is %d, or has changed its bytes", e)
	}
	b = append(b, 1, 2, 3)
	b[0] ^= 255
	g.Used[0] = !g.Used[0]
	if again, _ := blocks.Encode(s); !bytes.Equal(again, other) || !same(s, before) || !bytes.Equal(given, other) || !bytes.Equal(rest, make([]byte, 4)) {
		t.Errorf("results share memory with each other, or with the state %v", before)
	}
}
