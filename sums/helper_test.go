package sums_test

import (
	"bytes"
	"iter"
	"math"
	"math/big"
	"math/rand"
	"slices"
)

// prime is the number of which both halves of a mix are remainders.
const prime = 4294967291

// far are integers that are no number of bytes.
var far = []int{-1, -2, -255, 1000001, 1000002, 1 << 31, 1 << 32, 1<<32 + 1, math.MaxInt - 1, math.MaxInt, math.MinInt, math.MinInt + 1}

// crcOn is how the chapter goes on from the crc h with b.
func crcOn(h uint32, b []byte) uint32 {
	r := h ^ (1<<32 - 1)
	for _, c := range b {
		r ^= uint32(c)
		for range 8 {
			if r%2 == 1 {
				r = r/2 ^ 3988292384
			} else {
				r /= 2
			}
		}
	}
	return r ^ (1<<32 - 1)
}

// mixOn is how the chapter goes on from the mix h with bytes x: A becomes A + the sum of x, and B becomes B + n A + n times the first byte, n - 1 times the second one, and so on.
func mixOn(h uint64, x []byte) uint64 {
	a, b := big.NewInt(int64(h%(1<<32))), big.NewInt(int64(h/(1<<32)))
	b.Add(b, new(big.Int).Mul(a, big.NewInt(int64(len(x)))))
	for i, c := range x {
		a.Add(a, big.NewInt(int64(c)))
		b.Add(b, big.NewInt(int64(len(x)-i)*int64(c)))
	}
	return mixOf(a, b)
}

// rolled is how the chapter rolls the mix h.
func rolled(h uint64, n int, out, in byte) uint64 {
	a, b := big.NewInt(int64(h%(1<<32))), big.NewInt(int64(h/(1<<32)))
	a.Add(a, big.NewInt(int64(in)-int64(out)))
	a.Mod(a, big.NewInt(prime))
	b.Sub(b, big.NewInt(int64(n)*int64(out)))
	b.Add(b, a)
	b.Sub(b, big.NewInt(1))
	return mixOf(a, b)
}

// mixOf is the mix with the remainders of a and b as its halves.
func mixOf(a, b *big.Int) uint64 {
	p := big.NewInt(prime)
	return new(big.Int).Mod(b, p).Uint64()*(1<<32) + new(big.Int).Mod(a, p).Uint64()
}

// someBytes are n bytes without an order, the same in each call.
func someBytes(n int) []byte {
	b := make([]byte, n)
	rand.New(rand.NewSource(int64(n))).Read(b)
	return b
}

// samples are strings of bytes of several lengths.
func samples() [][]byte {
	l := [][]byte{nil, {}, []byte("a"), []byte("ab"), []byte("123456789"), make([]byte, 1), make([]byte, 100)}
	for c := range 256 {
		l = append(l, []byte{byte(c)})
	}
	for _, c := range []byte{1, 127, 128, 255} {
		l = append(l, bytes.Repeat([]byte{c}, 4), bytes.Repeat([]byte{c}, 300))
	}
	for n := 2; n <= 66; n++ {
		l = append(l, someBytes(n))
	}
	return append(l, someBytes(255), someBytes(256), someBytes(257), someBytes(1000), someBytes(5000))
}

// crcs are numbers that may be crcs: each bit alone, the least and greatest ones, and others.
func crcs() []uint32 {
	l := []uint32{0, math.MaxUint32, math.MaxUint32 - 1, 1<<31 - 1, 3904355907, 3421780262, 3988292384, 306674912}
	for i := range 32 {
		l = append(l, 1<<i)
	}
	random := rand.New(rand.NewSource(32))
	for range 20 {
		l = append(l, random.Uint32())
	}
	return l
}

// mixes are numbers that are mixes, with halves at both ends.
func mixes() []uint64 {
	parts := []uint64{0, 1, 2, 254, 255, 256, 1000000, 255000000, 1 << 31, prime - 256, prime - 255, prime - 2, prime - 1}
	var l []uint64
	for _, b := range parts {
		for _, a := range parts {
			l = append(l, b<<32+a)
		}
	}
	return l
}

// noMixes are numbers that are no mixes: the one half, the other one, or both of them are too large.
func noMixes() []uint64 {
	var l []uint64
	for _, large := range []uint64{prime, prime + 1, prime + 2, prime + 3, 1<<32 - 1} {
		for _, other := range []uint64{0, 1, prime - 1, prime, 1<<32 - 1} {
			l = append(l, large<<32+other, other<<32+large)
		}
	}
	return l
}

// changes yields b with each of its bytes changed to each other one; the bytes are those of one array.
func changes(b []byte) iter.Seq2[int, []byte] {
	return func(yield func(int, []byte) bool) {
		changed := slices.Clone(b)
		for i, c := range b {
			for x := 1; x < 256; x++ {
				changed[i] = c ^ byte(x)
				if !yield(i, changed) {
					return
				}
			}
			changed[i] = c
		}
	}
}

// cut is b as numbers, cut to what a message can show.
func cut(b []byte) []byte { return b[:min(len(b), 20)] }
