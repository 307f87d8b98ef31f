package bits_test

import (
	"iter"
	"math"
	"math/rand"
	"strings"
	"testing"

	"limewash/api"
	"limewash/bits"
)

// far are integers that no map has bits at.
var far = []int{-1, -2, -64, api.MaxBits + 1, 1 << 31, 1 << 32, math.MaxInt - 1, math.MaxInt, math.MinInt, math.MinInt + 1}

// mapOf is the map whose bits are written as 0 and 1, the bit 0 first.
func mapOf(t *testing.T, text string) *bits.Map {
	t.Helper()
	m, e := bits.New(len(text))
	if e != api.OK {
		t.Fatalf("New(%d) is %d", len(text), e)
	}
	for i := range len(text) {
		if e := m.Set(i, text[i] == '1'); e != api.OK {
			t.Fatalf("Set(%d) is %d", i, e)
		}
	}
	return m
}

// textOf is how mapOf writes the bits of m.
func textOf(t *testing.T, m *bits.Map) string {
	t.Helper()
	b := make([]byte, m.Len())
	for i := range b {
		v, e := m.Get(i)
		if e != api.OK {
			t.Fatalf("Get(%d) of %d bits is %d", i, m.Len(), e)
		}
		b[i] = digit(v)
	}
	return string(b)
}

// digit is how a bit is written.
func digit(v bool) byte {
	if v {
		return '1'
	}
	return '0'
}

// both are the two bits.
func both() []bool { return []bool{false, true} }

// inverse is text with the other bits.
func inverse(text string) string {
	return strings.NewReplacer("0", "1", "1", "0").Replace(text)
}

// bytesOf is the bytes of the map text, as the chapter says them.
func bytesOf(text string) []byte {
	var b []byte
	for len(text) > 0 {
		n := min(8, len(text))
		value := 0
		for i := range n {
			if text[i] == '1' {
				value += 1 << i
			}
		}
		b = append(b, byte(value))
		text = text[n:]
	}
	return b
}

// textsOf yields every map with n bits.
func textsOf(n int) iter.Seq[string] {
	return func(yield func(string) bool) {
		for x := range 1 << n {
			b := make([]byte, n)
			for i := range b {
				b[i] = digit(x>>i&1 == 1)
			}
			if !yield(string(b)) {
				return
			}
		}
	}
}

// longTexts are maps whose bits are in several words, in whole words, and at the ends of words.
func longTexts() []string {
	random := rand.New(rand.NewSource(2))
	var l []string
	for _, n := range []int{63, 64, 65, 127, 128, 129, 200, 4032, 4033, 4095, 4096} {
		l = append(l, strings.Repeat("0", n), strings.Repeat("1", n), scattered(random, n, 2), scattered(random, n, 30), inverse(scattered(random, n, 30)))
		for _, at := range []int{0, 62, 63, 64, 127, 128, n - 1} {
			if at < n {
				one := strings.Repeat("0", at) + "1" + strings.Repeat("0", n-at-1)
				l = append(l, one, inverse(one))
			}
		}
	}
	return l
}

// scattered is a map with n bits, of which one among many is true.
func scattered(random *rand.Rand, n, many int) string {
	b := make([]byte, n)
	for i := range b {
		b[i] = digit(random.Intn(many) == 0)
	}
	return string(b)
}

// edges are the places from 0 to n that are near the ends of words, and of the map.
func edges(n int) []int {
	var l []int
	for i := 0; i <= n; i++ {
		if i%64 <= 1 && i < 200 || i%64 == 63 && i < 200 || i == 100 || i >= n-2 {
			l = append(l, i)
		}
	}
	return l
}
