package bits_test

import (
	"bytes"
	"strings"
	"testing"

	"limewash/api"
	"limewash/bits"
)

// pairs are the methods that make a map of two.
func pairs() map[string]func(m, o *bits.Map) (*bits.Map, api.Errno) {
	return map[string]func(m, o *bits.Map) (*bits.Map, api.Errno){
		"And": (*bits.Map).And,
		"Or":  (*bits.Map).Or,
		"Xor": (*bits.Map).Xor,
	}
}

// trueOf reports whether a bit that a method of pairs makes is true, if so many of the two bits are.
func trueOf(call string, many int) bool {
	return call == "And" && many == 2 || call == "Or" && many >= 1 || call == "Xor" && many == 1
}

// joined is the map that a method of pairs makes of a and b.
func joined(call, a, b string) string {
	r := make([]byte, len(a))
	for i := range r {
		r[i] = digit(trueOf(call, strings.Count(a[i:i+1]+b[i:i+1], "1")))
	}
	return string(r)
}

// checkPair joins two maps, and looks at how often their bits are true.
func checkPair(t *testing.T, a, b string) {
	t.Helper()
	m, o := mapOf(t, a), mapOf(t, b)
	count := map[string]int{}
	for call, do := range pairs() {
		want := joined(call, a, b)
		r, e := do(m, o)
		if e != api.OK || r.Len() != len(a) || !r.Same(mapOf(t, want)) || !bytes.Equal(r.Bytes(), bytesOf(want)) {
			t.Errorf("%s of %s and %s is %s, %d, not %s", call, a, b, textOf(t, r), e, want)
		}
		count[call], _ = r.Count(0, len(a))
	}
	inFirst, _ := m.Count(0, len(a))
	inSecond, _ := o.Count(0, len(a))
	if inFirst+inSecond != count["And"]+count["Or"] || count["Xor"] != count["Or"]-count["And"] {
		t.Errorf("%s and %s have %d and %d bits, together %v", a, b, inFirst, inSecond, count)
	}
	if m.Same(o) != (a == b) || o.Same(m) != (a == b) {
		t.Errorf("Same of %s and %s is %v", a, b, m.Same(o))
	}
	if textOf(t, m) != a || textOf(t, o) != b {
		t.Errorf("%s and %s have become %s and %s", a, b, textOf(t, m), textOf(t, o))
	}
}

// TestPairs: P2.5 and P2.6, every two small maps, and long ones.
func TestPairs(t *testing.T) {
	for n := range 6 {
		for a := range textsOf(n) {
			for b := range textsOf(n) {
				checkPair(t, a, b)
			}
		}
	}
	for _, a := range longTexts() {
		for _, b := range longTexts() {
			if len(a) == len(b) && len(a) <= 200 || a == b || len(a) == len(b) && b[0] == '1' {
				checkPair(t, a, b)
			}
		}
	}
}

// TestPairLengths: P2.5, maps with another number of bits are not joined, and not the same.
func TestPairLengths(t *testing.T) {
	lengths := []int{0, 1, 2, 8, 63, 64, 65, 128, 4095, 4096}
	for _, n := range lengths {
		for _, other := range lengths {
			if n == other {
				continue
			}
			m, o := mapOf(t, strings.Repeat("0", n)), mapOf(t, strings.Repeat("0", other))
			for call, do := range pairs() {
				if r, e := do(m, o); r != nil || e != api.ErrArg {
					t.Errorf("%s of %d and %d bits is %v, %d", call, n, other, r, e)
				}
			}
			if m.Same(o) {
				t.Errorf("%d and %d bits are the same", n, other)
			}
		}
	}
}

// TestPairOfOne: P2.5, a map with itself.
func TestPairOfOne(t *testing.T) {
	for _, text := range append(longTexts(), "", "0", "1", example) {
		m := mapOf(t, text)
		if !m.Same(m) {
			t.Errorf("%s is not the same as itself", text)
		}
		for call, do := range pairs() {
			if r, e := do(m, m); e != api.OK || textOf(t, r) != joined(call, text, text) || textOf(t, m) != text {
				t.Errorf("%s of %s with itself is %s, %d", call, text, textOf(t, r), e)
			}
		}
	}
}

// not is Not of m.
func not(t *testing.T, m *bits.Map) *bits.Map {
	t.Helper()
	r, e := m.Not()
	if e != api.OK {
		t.Fatalf("Not is %d", e)
	}
	return r
}

// TestNot: P2.5 and P2.6, Not has the other bits, and none where there are none.
func TestNot(t *testing.T) {
	texts := longTexts()
	for n := range 10 {
		for text := range textsOf(n) {
			texts = append(texts, text)
		}
	}
	for _, text := range texts {
		m := mapOf(t, text)
		r := not(t, m)
		want := inverse(text)
		if textOf(t, r) != want || !r.Same(mapOf(t, want)) || !bytes.Equal(r.Bytes(), bytesOf(want)) {
			t.Errorf("Not of %s is %s, %v", text, textOf(t, r), r.Bytes())
		}
		if !not(t, r).Same(m) || textOf(t, m) != text {
			t.Errorf("Not of Not of %s is %s", text, textOf(t, not(t, r)))
		}
		if r.Same(m) != (text == "") {
			t.Errorf("Same of %s and its Not is %v", text, r.Same(m))
		}
	}
}

// TestNotOfPairs: P2.6, Not of And is Or of the Nots, and Xor is Or without And.
func TestNotOfPairs(t *testing.T) {
	for _, size := range []int{0, 4, 64, 70} {
		for a := range textsOf(min(size, 4)) {
			for b := range textsOf(min(size, 4)) {
				rest := strings.Repeat("0", size-len(a))
				m, o := mapOf(t, rest+a), mapOf(t, rest+b)
				and, _ := m.And(o)
				or, _ := m.Or(o)
				xor, _ := m.Xor(o)
				ofNots, e := not(t, m).Or(not(t, o))
				if e != api.OK || !not(t, and).Same(ofNots) {
					t.Errorf("Not of And of %s and %s is %s", a, b, textOf(t, not(t, and)))
				}
				without, e := or.And(not(t, and))
				if e != api.OK || !xor.Same(without) {
					t.Errorf("Xor of %s and %s is %s", a, b, textOf(t, xor))
				}
			}
		}
	}
}
