package bits_test

import (
	"bytes"
	"slices"
	"strings"
	"testing"

	"limewash/api"
	"limewash/bits"
)

// example is the map of the chapter's examples.
const example = "0110011100"

// TestExamples: P2.1 to P2.4, the chapter's examples.
func TestExamples(t *testing.T) {
	m := mapOf(t, example)
	for _, x := range []struct {
		call string
		n    int
		e    api.Errno
		do   func() (int, api.Errno)
	}{
		{"Count 0, 10", 5, api.OK, func() (int, api.Errno) { return m.Count(0, 10) }},
		{"Count 2, 4", 2, api.OK, func() (int, api.Errno) { return m.Count(2, 4) }},
		{"Count 5, 6", 0, api.ErrRange, func() (int, api.Errno) { return m.Count(5, 6) }},
		{"Next 3, true", 5, api.OK, func() (int, api.Errno) { return m.Next(3, true) }},
		{"Next 8, true", 0, api.ErrNone, func() (int, api.Errno) { return m.Next(8, true) }},
		{"Last 5, true", 2, api.OK, func() (int, api.Errno) { return m.Last(5, true) }},
		{"Last 1, true", 0, api.ErrNone, func() (int, api.Errno) { return m.Last(1, true) }},
		{"Run 0, 3, true", 5, api.OK, func() (int, api.Errno) { return m.Run(0, 3, true) }},
		{"Run 0, 2, false", 3, api.OK, func() (int, api.Errno) { return m.Run(0, 2, false) }},
		{"Run 0, 4, true", 0, api.ErrNone, func() (int, api.Errno) { return m.Run(0, 4, true) }},
	} {
		if n, e := x.do(); n != x.n || e != x.e {
			t.Errorf("%s is %d, %d, not %d, %d", x.call, n, e, x.n, x.e)
		}
	}
	if b := m.Bytes(); !bytes.Equal(b, []byte{230, 0}) {
		t.Errorf("Bytes is %v", b)
	}
	for _, b := range [][]byte{{230, 4}, {230}} {
		if l, e := bits.Load(10, b); l != nil || e != api.ErrForm {
			t.Errorf("Load(10, %v) is %v, %d", b, l, e)
		}
	}
	turned, filled := m.Turn(0), m.Fill(0, 3, false)
	if b := m.Bytes(); turned != api.OK || filled != api.OK || !bytes.Equal(b, []byte{224, 0}) {
		t.Errorf("Turn is %d, Fill %d, and then Bytes %v", turned, filled, b)
	}
}

// TestNew: P2.1, maps of every length, without a bit that is true.
func TestNew(t *testing.T) {
	for n := range api.MaxBits + 1 {
		m, e := bits.New(n)
		if e != api.OK || m.Len() != n {
			t.Fatalf("New(%d) has %d bits, %d", n, m.Len(), e)
		}
		if b := m.Bytes(); !bytes.Equal(b, make([]byte, (n+7)/8)) {
			t.Errorf("Bytes of New(%d) is %v", n, b)
		}
		if count, e := m.Count(0, n); count != 0 || e != api.OK {
			t.Errorf("Count of New(%d) is %d, %d", n, count, e)
		}
	}
	for _, n := range far {
		if m, e := bits.New(n); m != nil || e != api.ErrRange {
			t.Errorf("New(%d) is %v, %d", n, m, e)
		}
		for _, b := range [][]byte{nil, {0}, make([]byte, 512), make([]byte, 513)} {
			if m, e := bits.Load(n, b); m != nil || e != api.ErrRange {
				t.Errorf("Load(%d) of %d bytes is %v, %d", n, len(b), m, e)
			}
		}
	}
}

// checkBytes compares the bytes of the map text with what the chapter says, and Load of them with the map.
func checkBytes(t *testing.T, text string) {
	t.Helper()
	want := bytesOf(text)
	m := mapOf(t, text)
	if b := m.Bytes(); !bytes.Equal(b, want) {
		t.Errorf("Bytes of %s is %v, not %v", text, b, want)
	}
	l, e := bits.Load(len(text), want)
	if e != api.OK || textOf(t, l) != text || !l.Same(m) || !bytes.Equal(l.Bytes(), want) {
		t.Errorf("Load(%d, %v) is %s, %d", len(text), want, textOf(t, l), e)
	}
}

// TestBytes: P2.1 and P2.8, Bytes and Load undo each other.
func TestBytes(t *testing.T) {
	for n := range 11 {
		for text := range textsOf(n) {
			checkBytes(t, text)
		}
	}
	for _, text := range longTexts() {
		checkBytes(t, text)
	}
}

// TestLoadLengths: P2.1, bytes of another number than those of the map.
func TestLoadLengths(t *testing.T) {
	for _, n := range []int{0, 1, 7, 8, 9, 63, 64, 65, 4088, 4089, 4095, 4096} {
		for _, length := range []int{0, 1, 2, 7, 8, 9, (n+7)/8 - 1, (n + 7) / 8, (n+7)/8 + 1, 511, 512, 513, 1000} {
			if length < 0 {
				continue
			}
			want := api.ErrForm
			if length == (n+7)/8 {
				want = api.OK
			}
			if m, e := bits.Load(n, make([]byte, length)); e != want || (m != nil) != (e == api.OK) {
				t.Errorf("Load(%d) of %d bytes is %v, %d", n, length, m, e)
			}
		}
	}
}

// TestLoadBits: P2.1, each bit of the bytes alone: it is a bit of the map, or there is no such map.
func TestLoadBits(t *testing.T) {
	for _, n := range []int{1, 2, 6, 7, 8, 9, 12, 16, 61, 63, 64, 65, 4089, 4095, 4096} {
		for i := range (n + 7) / 8 * 8 {
			b := make([]byte, (n+7)/8)
			b[i/8] = 1 << (i % 8)
			m, e := bits.Load(n, b)
			if i >= n {
				if m != nil || e != api.ErrForm {
					t.Errorf("Load(%d) with the bit %d is %v, %d", n, i, m, e)
				}
				continue
			}
			if want := strings.Repeat("0", i) + "1" + strings.Repeat("0", n-i-1); e != api.OK || textOf(t, m) != want {
				t.Errorf("Load(%d) with the bit %d is %s, %d", n, i, textOf(t, m), e)
			}
		}
	}
	for c := range 256 {
		want := api.ErrForm
		if c < 4 {
			want = api.OK
		}
		if _, e := bits.Load(10, []byte{255, byte(c)}); e != want {
			t.Errorf("Load(10) of 255, %d is %d", c, e)
		}
	}
}

// checkOneBit looks at Get, Set and Turn of the bit i of the map text, and at all other bits.
func checkOneBit(t *testing.T, text string, i int) {
	t.Helper()
	old := text[i] == '1'
	m := mapOf(t, text)
	with := func(v bool) string { return text[:i] + string(digit(v)) + text[i+1:] }
	if v, e := m.Get(i); v != old || e != api.OK || textOf(t, m) != text {
		t.Errorf("Get(%d) of %s is %v, %d", i, text, v, e)
	}
	for _, v := range []bool{old, !old, !old, old} {
		if e := m.Set(i, v); e != api.OK || textOf(t, m) != with(v) {
			t.Errorf("Set(%d, %v) of %s is %d, and makes %s", i, v, text, e, textOf(t, m))
		}
	}
	for _, v := range []bool{!old, old} {
		if e := m.Turn(i); e != api.OK || textOf(t, m) != with(v) {
			t.Errorf("Turn(%d) of %s is %d, and makes %s", i, text, e, textOf(t, m))
		}
	}
}

// TestOneBit: P2.2, Get, Set and Turn of each bit.
func TestOneBit(t *testing.T) {
	for n := range 7 {
		for text := range textsOf(n) {
			for i := range n {
				checkOneBit(t, text, i)
			}
		}
	}
	for _, text := range longTexts() {
		for _, i := range edges(len(text) - 1) {
			checkOneBit(t, text, i)
		}
	}
}

// TestOneBitErrors: P2.2, there is no such bit, and nothing changes.
func TestOneBitErrors(t *testing.T) {
	for _, text := range []string{"", "1", "0", example, strings.Repeat("1", 64), strings.Repeat("01", 2048)} {
		m := mapOf(t, text)
		for _, i := range append([]int{len(text), len(text) + 1, len(text) + 63, len(text) + 64}, far...) {
			if v, e := m.Get(i); v || e != api.ErrRange {
				t.Errorf("Get(%d) of %d bits is %v, %d", i, len(text), v, e)
			}
			if e := m.Turn(i); e != api.ErrRange {
				t.Errorf("Turn(%d) of %d bits is %d", i, len(text), e)
			}
			for _, v := range both() {
				if e := m.Set(i, v); e != api.ErrRange {
					t.Errorf("Set(%d, %v) of %d bits is %d", i, v, len(text), e)
				}
			}
		}
		if got := textOf(t, m); got != text || !m.Same(mapOf(t, text)) || !bytes.Equal(m.Bytes(), bytesOf(text)) {
			t.Errorf("%s has become %s", text, got)
		}
	}
}

// checkNoMap calls all methods of m, which this package has not returned.
func checkNoMap(t *testing.T, name string, m *bits.Map) {
	t.Helper()
	check := func(call string, e api.Errno, zero bool) {
		t.Helper()
		if e != api.ErrNil || !zero {
			t.Errorf("%s of %s is %d, with a result that is zero: %v", call, name, e, zero)
		}
	}
	for _, i := range []int{0, 1, -1, api.MaxBits + 1} {
		v, e := m.Get(i)
		check("Get", e, !v)
		check("Set", m.Set(i, true), true)
		check("Turn", m.Turn(i), true)
		check("Fill", m.Fill(i, i, true), true)
		n, e := m.Count(i, i)
		check("Count", e, n == 0)
		n, e = m.Next(i, false)
		check("Next", e, n == 0)
		n, e = m.Last(i, false)
		check("Last", e, n == 0)
		n, e = m.Run(i, i, false)
		check("Run", e, n == 0)
	}
	for _, o := range []*bits.Map{m, nil, new(bits.Map), mapOf(t, ""), mapOf(t, example)} {
		for call, do := range pairs() {
			r, e := do(m, o)
			check(call, e, r == nil)
			r, e = do(o, m)
			check(call+" with it", e, r == nil)
		}
		if m.Same(o) || o.Same(m) {
			t.Errorf("%s is the same as another map", name)
		}
	}
	r, e := m.Not()
	check("Not", e, r == nil)
	if m.Len() != 0 || len(m.Bytes()) != 0 {
		t.Errorf("%s has %d bits, %v", name, m.Len(), m.Bytes())
	}
}

// TestNoMap: R5, maps that are nil, or that this package has not returned.
func TestNoMap(t *testing.T) {
	checkNoMap(t, "nil", nil)
	checkNoMap(t, "a zero value", new(bits.Map))
	var variable bits.Map
	checkNoMap(t, "a variable", &variable)
	m := mapOf(t, "1")
	copied := *m
	checkNoMap(t, "a copy", &copied)
	if textOf(t, m) != "1" {
		t.Errorf("the copied map has become %s", textOf(t, m))
	}
}

// TestMemory: P2.8, R3 and R6, arguments stay as they are, and results are new memory.
func TestMemory(t *testing.T) {
	whole := []byte{230, 0, 7}
	m, e := bits.Load(10, whole[:2])
	if e != api.OK || !bytes.Equal(whole, []byte{230, 0, 7}) {
		t.Fatalf("Load is %d, and leaves %v", e, whole)
	}
	if _, e := bits.Load(10, whole[1:]); e != api.ErrForm || !bytes.Equal(whole, []byte{230, 0, 7}) {
		t.Errorf("Load is %d, and leaves %v", e, whole)
	}
	clear(whole)
	first, second := m.Bytes(), m.Bytes()
	clear(first)
	first = append(first[:0], 9, 9)
	if got := textOf(t, m); got != example || !bytes.Equal(second, []byte{230, 0}) {
		t.Errorf("after %v the map is %s, and its bytes %v", first, got, second)
	}
	if e := m.Fill(0, 10, true); e != api.OK || !bytes.Equal(second, []byte{230, 0}) {
		t.Errorf("Fill is %d, and the bytes before it %v", e, second)
	}
}

// TestIndependent: R6, what is done to a map does not change another one.
func TestIndependent(t *testing.T) {
	a, b := mapOf(t, example), mapOf(t, example)
	a.Set(0, true)
	a.Fill(3, 7, true)
	if got := textOf(t, b); got != example {
		t.Errorf("another map has become %s", got)
	}
	results := []*bits.Map{}
	for _, do := range pairs() {
		r, e := do(b, b)
		if e != api.OK {
			t.Fatalf("a map with itself is %d", e)
		}
		results = append(results, r)
	}
	n, _ := b.Not()
	results = append(results, n, b)
	for i, r := range results {
		var before []string
		for _, o := range results {
			before = append(before, textOf(t, o))
		}
		before[i] = inverse(before[i])
		for at := range r.Len() {
			r.Turn(at)
		}
		var after []string
		for _, o := range results {
			after = append(after, textOf(t, o))
		}
		if !slices.Equal(before, after) {
			t.Errorf("when %d was turned, there was %v, not %v", i, after, before)
		}
	}
}
