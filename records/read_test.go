package records_test

import (
	"math/rand"
	"slices"
	"strings"
	"testing"

	"limewash/api"
	"limewash/records"
)

// TestDecodeExamples: P5.2, P5.3, the chapter's examples.
func TestDecodeExamples(t *testing.T) {
	for _, x := range []struct {
		form string
		b    []byte
		want []api.RcValue
		used int
		e    api.Errno
	}{
		{"v", []byte{172, 2, 5}, many(num(300)), 2, api.OK},
		{"v", []byte{172}, nil, 0, api.ErrMore},
		{"v", []byte{172, 0}, nil, 0, api.ErrForm},
		{"s", []byte{145, 3}, nil, 0, api.ErrLong},
		{"d", []byte{1, 2, 3}, nil, 0, api.ErrMore},
		{"b", []byte{1, 2}, many(num(1)), 1, api.OK},
		{"", []byte{1, 2}, nil, 0, api.OK},
	} {
		if l, used, e := records.Decode(x.form, x.b); !sameValues(l, x.want) || used != x.used || e != x.e {
			t.Errorf("Decode of %q from %v is %v, %d, %d, not %v, %d, %d", x.form, x.b, l, used, e, x.want, x.used, x.e)
		}
		checkDecode(t, x.form, x.b)
	}
	if l, e := records.Whole("b", []byte{1, 2}); len(l) != 0 || e != api.ErrForm {
		t.Errorf("Whole of b from 1, 2 is %v, %d", l, e)
	}
}

// TestDecodeShort: P5.2, P5.3, P5.7, each kind from all bytes, and all two bytes.
func TestDecodeShort(t *testing.T) {
	for _, kind := range []byte(letters) {
		checkDecode(t, string(kind), nil)
		checkDecode(t, string(kind), []byte{})
		for c := range 256 {
			checkDecode(t, string(kind), []byte{byte(c)})
			for d := range 256 {
				checkDecode(t, string(kind), []byte{byte(c), byte(d)})
			}
		}
	}
}

// TestDecodeMany: P5.2, P5.3, P5.7, bytes without an order, with many small ones among them.
func TestDecodeMany(t *testing.T) {
	r := rand.New(rand.NewSource(2))
	for i := range 20000 {
		form, _ := someForm(r, i%7)
		b := make([]byte, r.Intn(40))
		r.Read(b)
		for j := range b {
			if r.Intn(3) > 0 {
				b[j] = []byte{0, 1, 2, 3, 5, 127, 128, 129, 255}[r.Intn(9)]
			}
		}
		checkDecode(t, form, b)
	}
}

// TestGroups: P5.2, numbers of the kind v, and the same numbers where strings and lists have them.
func TestGroups(t *testing.T) {
	for more := range 13 {
		for _, c := range []byte{128, 129, 255} {
			for _, last := range []int{-1, 0, 1, 2, 3, 127} {
				b := slices.Repeat([]byte{c}, more)
				if last >= 0 {
					b = append(b, byte(last))
				}
				for _, kind := range []byte("vsl") {
					checkDecode(t, string(kind), b)
					checkDecode(t, string(kind), append(slices.Clone(b), 200, 200))
					checkDecode(t, "b"+string(kind), append([]byte{255}, b...))
				}
			}
		}
	}
	top := slices.Repeat([]byte{255}, 9)
	for _, x := range []struct {
		b []byte
		e api.Errno
	}{
		{top, api.ErrMore},
		{append(slices.Clone(top), 1), api.OK},
		{append(slices.Clone(top), 2), api.ErrForm},
		{append(slices.Clone(top), 3), api.ErrForm},
		{append(slices.Clone(top), 127), api.ErrForm},
		{append(slices.Clone(top), 0), api.ErrForm},
		{append(slices.Clone(top), 128), api.ErrForm},
		{append(slices.Clone(top), 129), api.ErrForm},
		{append(slices.Clone(top), 129, 0), api.ErrForm},
		{append(slices.Clone(top), 128, 1), api.ErrForm},
		{[]byte{0}, api.OK},
		{[]byte{128, 0}, api.ErrForm},
		{[]byte{128, 128}, api.ErrMore},
	} {
		if _, _, e := records.Decode("v", x.b); e != x.e {
			t.Errorf("Decode of v from %v is %d, not %d", x.b, e, x.e)
		}
	}
}

// TestLengths: P5.2, strings and lists at their limits; a number that is not as it must be comes first, then one that is too large, and then bytes that are missing.
func TestLengths(t *testing.T) {
	for _, x := range []struct {
		form string
		n    uint64
		have int
		e    api.Errno
	}{
		{"s", 0, 0, api.OK}, {"s", 1, 0, api.ErrMore}, {"s", 1, 1, api.OK},
		{"s", 400, 400, api.OK}, {"s", 400, 399, api.ErrMore}, {"s", 401, 401, api.ErrLong}, {"s", 401, 0, api.ErrLong},
		{"s", 1 << 32, 500, api.ErrLong}, {"s", 1 << 63, 500, api.ErrLong}, {"s", 1<<64 - 1, 500, api.ErrLong},
		{"l", 0, 0, api.OK}, {"l", 1, 3, api.ErrMore}, {"l", 1, 4, api.OK}, {"l", 2, 7, api.ErrMore},
		{"l", 60, 240, api.OK}, {"l", 60, 239, api.ErrMore}, {"l", 61, 244, api.ErrLong}, {"l", 61, 0, api.ErrLong},
		{"l", 1 << 30, 500, api.ErrLong}, {"l", 1 << 62, 500, api.ErrLong}, {"l", 1<<62 + 1, 500, api.ErrLong}, {"l", 1<<64 - 1, 500, api.ErrLong},
	} {
		b := append(grouped(x.n), slices.Repeat([]byte{7}, x.have)...)
		checkDecode(t, x.form, b)
		if _, _, e := records.Decode(x.form, b); e != x.e {
			t.Errorf("Decode of %s of %d from %d bytes is %d, not %d", x.form, x.n, x.have, e, x.e)
		}
	}
	// 401 and 61, each with a group more than necessary.
	for form, b := range map[string][]byte{"s": {145, 131, 0}, "l": {189, 0}} {
		if _, _, e := records.Decode(form, b); e != api.ErrForm {
			t.Errorf("Decode of %s from %v is %d", form, b, e)
		}
	}
}

// TestDecodeLong: P5.2, P5.3, records of 4000 bytes and more; a value that cannot be read comes first, even after 4000 bytes.
func TestDecodeLong(t *testing.T) {
	form := strings.Repeat("s", 10)
	long := slices.Repeat(append([]byte{144, 3}, make([]byte, 400)...), 9)
	for _, x := range []struct {
		form string
		last []byte
		e    api.Errno
	}{
		{"", append(grouped(379), make([]byte, 379)...), api.OK},
		{"", append(grouped(380), make([]byte, 380)...), api.OK},
		{"", append(grouped(381), make([]byte, 381)...), api.ErrLong},
		{"", append(grouped(400), make([]byte, 400)...), api.ErrLong},
		{"", append(grouped(400), make([]byte, 399)...), api.ErrMore},
		{"b", append(grouped(380), make([]byte, 381)...), api.ErrLong},
		{"b", append(grouped(400), make([]byte, 400)...), api.ErrMore},
		{"v", append(append(grouped(400), make([]byte, 400)...), 128, 0), api.ErrForm},
		{"v", append(append(grouped(400), make([]byte, 400)...), 128), api.ErrMore},
		{"l", append(append(grouped(400), make([]byte, 400)...), 61), api.ErrLong},
	} {
		b := append(slices.Clone(long), x.last...)
		checkDecode(t, form+x.form, b)
		if _, _, e := records.Decode(form+x.form, b); e != x.e {
			t.Errorf("Decode of nine strings, one of %d bytes, and %q is %d, not %d", len(x.last), x.form, e, x.e)
		}
	}
	// Bytes after a record do not make it longer.
	checkDecode(t, "b", make([]byte, 5000))
	checkDecode(t, strings.Repeat("q", 64), make([]byte, 5000))
	checkDecode(t, strings.Repeat("s", 64), slices.Repeat(long[:402], 64))
}

// TestFirstUnread: P5.2, the first value that cannot be read has the error.
func TestFirstUnread(t *testing.T) {
	for _, x := range []struct {
		form string
		b    []byte
		e    api.Errno
	}{
		{"sv", []byte{145, 3, 128, 0}, api.ErrLong},
		{"vs", []byte{128, 0, 145, 3}, api.ErrForm},
		{"bvs", []byte{9, 1, 145, 3}, api.ErrLong},
		{"wd", []byte{1}, api.ErrMore},
		{"lw", []byte{61}, api.ErrLong},
		{"lw", []byte{0}, api.ErrMore},
		{"svb", []byte{3, 'a', 'b', 'c', 255, 0}, api.ErrForm},
	} {
		checkDecode(t, x.form, x.b)
		if l, used, e := records.Decode(x.form, x.b); len(l) != 0 || used != 0 || e != x.e {
			t.Errorf("Decode of %s from %v is %v, %d, %d, not %d", x.form, x.b, l, used, e, x.e)
		}
	}
}

// TestDecodeMemory: P5.9, values share no memory with the bytes, and not with each other.
func TestDecodeMemory(t *testing.T) {
	form, want := "slls", many(str("abc"), list(1, 2, 3), list(4), str("abc"))
	b, _ := records.Encode(form, want)
	l, _, e := records.Decode(form, b)
	whole, f := records.Whole(form, b)
	if e != api.OK || f != api.OK {
		t.Fatalf("Decode and Whole of %s are %d, %d", form, e, f)
	}
	for i := range b {
		b[i] = 255
	}
	if !sameValues(l, want) || !sameValues(whole, want) {
		t.Errorf("the values %v and %v are those of other bytes", l, whole)
	}
	for i := range l[1].List[:cap(l[1].List)] {
		l[1].List[:cap(l[1].List)][i] = 99
	}
	if !sameValues(l[2:], want[2:]) || !sameValues(whole, want) {
		t.Errorf("the values %v and %v share a list", l, whole)
	}
}

// TestEncodeMemory: P5.9, records share no memory with values.
func TestEncodeMemory(t *testing.T) {
	l := many(list(1, 2, 3), str("abc"))
	b, _ := records.Encode("ls", l)
	want := slices.Clone(b)
	l[0].List[0], l[1] = 9, str("x")
	if !slices.Equal(b, want) {
		t.Errorf("the record %v has become %v", want, b)
	}
}
