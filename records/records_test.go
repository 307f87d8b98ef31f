package records_test

import (
	"bytes"
	"math"
	"math/rand"
	"slices"
	"strings"
	"testing"

	"limewash/api"
	"limewash/records"
)

// TestEncodeExamples: P5.1, the chapter's examples.
func TestEncodeExamples(t *testing.T) {
	for _, x := range []struct {
		form string
		l    []api.RcValue
		want []byte
		e    api.Errno
	}{
		{"bw", many(num(7), num(258)), []byte{7, 2, 1}, api.OK},
		{"v", many(num(300)), []byte{172, 2}, api.OK},
		{"s", many(str("ab")), []byte{2, 'a', 'b'}, api.OK},
		{"l", many(list(1, 2)), []byte{2, 1, 0, 0, 0, 2, 0, 0, 0}, api.OK},
		{"", nil, nil, api.OK},
		{"b", many(num(256)), nil, api.ErrRange},
		{"b", many(api.RcValue{Num: 1, Str: "x"}), nil, api.ErrArg},
		{"x", many(num(0)), nil, api.ErrArg},
		{"b", nil, nil, api.ErrArg},
	} {
		if b, e := records.Encode(x.form, x.l); !bytes.Equal(b, x.want) || e != x.e {
			t.Errorf("Encode of %q with %v is %v, %d, not %v, %d", x.form, x.l, b, e, x.want, x.e)
		}
		if n, e := records.Size(x.form, x.l); n != len(x.want) || e != x.e {
			t.Errorf("Size of %q with %v is %d, %d, not %d, %d", x.form, x.l, n, e, len(x.want), x.e)
		}
	}
}

// TestEncode: P5.1, all samples of each kind, alone and between others.
func TestEncode(t *testing.T) {
	for _, kind := range []byte(letters) {
		for _, v := range samples(kind) {
			checkEncode(t, string(kind), many(v))
			checkEncode(t, "s"+string(kind)+"b", many(str("a"), v, num(9)))
		}
	}
}

// TestNumbers: P5.1, bytes of numbers that are written out here.
func TestNumbers(t *testing.T) {
	ones := slices.Repeat([]byte{255}, 9)
	for _, x := range []struct {
		form string
		n    uint64
		want []byte
	}{
		{"b", 255, ones[:1]},
		{"w", 0xa1b2, []byte{0xb2, 0xa1}},
		{"d", 0xa1b2c3d4, []byte{0xd4, 0xc3, 0xb2, 0xa1}},
		{"q", 0xa1b2c3d4e5f60718, []byte{0x18, 0x07, 0xf6, 0xe5, 0xd4, 0xc3, 0xb2, 0xa1}},
		{"q", math.MaxUint64, ones[:8]},
		{"v", 0, []byte{0}},
		{"v", 127, []byte{127}},
		{"v", 128, []byte{128, 1}},
		{"v", 1<<14 - 1, []byte{255, 127}},
		{"v", 1 << 14, []byte{128, 128, 1}},
		{"v", 1<<63 - 1, append(slices.Clone(ones[:8]), 127)},
		{"v", 1 << 63, append(slices.Repeat([]byte{128}, 9), 1)},
		{"v", math.MaxUint64, append(slices.Clone(ones), 1)},
	} {
		if b, e := records.Encode(x.form, many(num(x.n))); !bytes.Equal(b, x.want) || e != api.OK {
			t.Errorf("Encode of %s with %d is %v, %d, not %v", x.form, x.n, b, e, x.want)
		}
		l, used, e := records.Decode(x.form, append(slices.Clone(x.want), 5))
		if !sameValues(l, many(num(x.n))) || used != len(x.want) || e != api.OK {
			t.Errorf("Decode of %s from %v is %v, %d, %d, not %d", x.form, x.want, l, used, e, x.n)
		}
	}
}

// TestForms: P5.1, P5.2, P5.3, forms that are too long, with other letters, and with another number of values; the errors of forms come before all others.
func TestForms(t *testing.T) {
	for _, x := range []struct {
		form string
		e    api.Errno
	}{
		{"", api.OK},
		{strings.Repeat("b", 64), api.OK},
		{strings.Repeat("b", 65), api.ErrLong},
		{strings.Repeat("b", 64) + "x", api.ErrLong},
		{strings.Repeat("x", 65), api.ErrLong},
		{strings.Repeat("b", 63) + "x", api.ErrArg},
		{strings.Repeat("x", 64), api.ErrArg},
		{strings.Repeat("é", 32), api.ErrArg},
		{strings.Repeat("é", 33), api.ErrLong},
		{strings.Repeat("b", 100000), api.ErrLong},
		{"B", api.ErrArg}, {"bb ", api.ErrArg}, {"\x00b", api.ErrArg}, {"b\n", api.ErrArg},
	} {
		n := len(x.form)
		for _, l := range [][]api.RcValue{make([]api.RcValue, n), nil, make([]api.RcValue, n+1), slices.Repeat(many(num(256)), n)} {
			checkEncode(t, x.form, l)
		}
		for _, b := range [][]byte{make([]byte, n), make([]byte, n+1), nil} {
			checkDecode(t, x.form, b)
		}
		if _, e := records.Size(x.form, make([]api.RcValue, n)); e != x.e {
			t.Errorf("Size of %q is %d, not %d", x.form, e, x.e)
		}
		if _, _, e := records.Decode(x.form, make([]byte, n)); e != x.e {
			t.Errorf("Decode of %q is %d, not %d", x.form, e, x.e)
		}
	}
	for c := range 256 {
		form := string([]byte{byte(c)})
		checkEncode(t, form, many(num(0)))
		checkDecode(t, form, make([]byte, 8))
		checkDecode(t, "b"+form, nil)
	}
}

// TestCounts: P5.1, other numbers of values than of kinds come before what is wrong with the values.
func TestCounts(t *testing.T) {
	for n := range 5 {
		form := "bwsl"[:n]
		for m := range 7 {
			for _, v := range many(num(0), num(70000), str("x"), text(401), elements(61)) {
				l := slices.Repeat(many(v), m)
				checkEncode(t, form, l)
				if _, e := records.Encode(form, l); m != n && e != api.ErrArg {
					t.Errorf("Encode of %q with %d values is %d", form, m, e)
				}
			}
		}
	}
}

// TestValueErrors: P5.1, values that are not as their kinds say, alone and after others.
func TestValueErrors(t *testing.T) {
	for _, x := range []struct {
		kinds string
		v     api.RcValue
		e     api.Errno
	}{
		{"b", num(256), api.ErrRange},
		{"bw", num(1 << 16), api.ErrRange},
		{"bwd", num(1 << 32), api.ErrRange},
		{"bwd", num(math.MaxUint64), api.ErrRange},
		{"qv", num(math.MaxUint64), api.OK},
		{"s", text(400), api.OK},
		{"s", text(401), api.ErrLong},
		{"s", text(70000), api.ErrLong},
		{"l", elements(60), api.OK},
		{"l", elements(61), api.ErrLong},
		{"l", elements(70000), api.ErrLong},
		{"bwdqvl", str("x"), api.ErrArg},
		{"bwdqvs", list(0), api.ErrArg},
		{"sl", num(1), api.ErrArg},
		{"bwdqvsl", api.RcValue{Num: 1, Str: "x"}, api.ErrArg},
		{"bwdqvsl", api.RcValue{Num: 1, List: []uint32{1}}, api.ErrArg},
		{"bwdqvsl", api.RcValue{Str: "x", List: []uint32{1}}, api.ErrArg},
		{"bwdqv", api.RcValue{Num: math.MaxUint64, Str: "x"}, api.ErrArg},
		{"bwdqv", api.RcValue{Num: math.MaxUint64, List: []uint32{1}}, api.ErrArg},
		{"s", api.RcValue{Num: 1, Str: text(401).Str}, api.ErrArg},
		{"s", api.RcValue{Str: text(401).Str, List: []uint32{0}}, api.ErrArg},
		{"l", api.RcValue{Num: 1, List: make([]uint32, 61)}, api.ErrArg},
		{"l", api.RcValue{Str: "x", List: make([]uint32, 61)}, api.ErrArg},
		{"bwdqvs", api.RcValue{List: []uint32{}}, api.OK},
	} {
		for _, kind := range []byte(x.kinds) {
			form := string(kind)
			checkEncode(t, form, many(x.v))
			checkEncode(t, "bs"+form, many(num(1), str("y"), x.v))
			if _, e := records.Encode(form, many(x.v)); e != x.e {
				t.Errorf("Encode of %s with %v is %d, not %d", form, x.v, e, x.e)
			}
		}
	}
}

// TestFirstValue: P5.1, of several values that are not as they must be, the first one has the error.
func TestFirstValue(t *testing.T) {
	type wrong struct {
		kind string
		v    api.RcValue
		e    api.Errno
	}
	l := []wrong{{"b", num(256), api.ErrRange}, {"s", text(401), api.ErrLong}, {"l", num(1), api.ErrArg}, {"w", list(1), api.ErrArg}, {"d", num(1 << 32), api.ErrRange}}
	for _, first := range l {
		for _, second := range l {
			form := "q" + first.kind + second.kind
			checkEncode(t, form, many(num(1), first.v, second.v))
			if n, e := records.Size(form, many(num(1), first.v, second.v)); n != 0 || e != first.e {
				t.Errorf("Size of %s is %d, %d, not %d", form, n, e, first.e)
			}
		}
	}
}

// TestLongRecords: P5.1, records of 4000 bytes and more; what is wrong with a value comes first, even after 4000 bytes.
func TestLongRecords(t *testing.T) {
	form := strings.Repeat("s", 10)
	l := slices.Repeat(many(text(400)), 10) // 402 bytes each
	for _, x := range []struct {
		last, size int
		e          api.Errno
	}{{379, 3999, api.OK}, {380, 4000, api.OK}, {381, 0, api.ErrLong}, {382, 0, api.ErrLong}, {400, 0, api.ErrLong}} {
		l[9] = text(x.last)
		checkEncode(t, form, l)
		if n, e := records.Size(form, l); n != x.size || e != x.e {
			t.Errorf("Size of nine strings of 400 bytes and one of %d is %d, %d, not %d, %d", x.last, n, e, x.size, x.e)
		}
	}
	l[9] = text(400)
	for _, x := range []struct {
		kind string
		v    api.RcValue
		e    api.Errno
	}{{"b", num(0), api.ErrLong}, {"b", num(256), api.ErrRange}, {"q", list(1), api.ErrArg}, {"s", text(401), api.ErrLong}} {
		checkEncode(t, form+x.kind, append(slices.Clone(l), x.v))
		if _, e := records.Encode(form+x.kind, append(slices.Clone(l), x.v)); e != x.e {
			t.Errorf("Encode of 4020 bytes and %s with %v is %d, not %d", x.kind, x.v, e, x.e)
		}
	}
	checkEncode(t, strings.Repeat("s", 64), slices.Repeat(many(text(400)), 64))
	checkEncode(t, strings.Repeat("l", 17), slices.Repeat(many(elements(60)), 17))
}

// TestConcat: P5.8, the record of two forms is the records of both.
func TestConcat(t *testing.T) {
	r := rand.New(rand.NewSource(8))
	for n := range 10 {
		for m := range 10 {
			form, l := someForm(r, n)
			other, k := someForm(r, m)
			first, _ := records.Encode(form, l)
			second, _ := records.Encode(other, k)
			got, e := records.Encode(form+other, append(slices.Clone(l), k...))
			if want := append(slices.Clone(first), second...); len(want) <= 4000 && (!bytes.Equal(got, want) || e != api.OK) {
				t.Errorf("Encode of %s and %s is %v, %d, not %v", form, other, got, e, want)
			}
		}
	}
}

// TestManyRecords: P5.1 to P5.3, P5.6, records of many forms; they are read whole, cut off, and with other bytes after them.
func TestManyRecords(t *testing.T) {
	r := rand.New(rand.NewSource(1))
	for i := range 600 {
		form, l := someForm(r, i%65)
		b := checkEncode(t, form, l)
		if len(b) == 0 {
			continue
		}
		more := make([]byte, 20)
		r.Read(more)
		got, used, e := records.Decode(form, append(slices.Clone(b), more...))
		if !sameValues(got, l) || used != len(b) || e != api.OK {
			t.Errorf("Decode of %s from %v and other bytes is %v, %d, %d", form, b, got, used, e)
		}
		if got, e := records.Whole(form, b); !sameValues(got, l) || e != api.OK {
			t.Errorf("Whole of %s from %v is %v, %d", form, b, got, e)
		}
		if got, e := records.Whole(form, append(slices.Clone(b), 0)); len(got) != 0 || e != api.ErrForm {
			t.Errorf("Whole of %s from %v and a byte 0 is %v, %d", form, b, got, e)
		}
		cut := r.Intn(len(b))
		if got, used, e := records.Decode(form, b[:cut]); len(got) != 0 || used != 0 || e != api.ErrMore {
			t.Errorf("Decode of %s from %v is %v, %d, %d", form, b[:cut], got, used, e)
		}
		if got, e := records.Whole(form, b[:cut]); len(got) != 0 || e != api.ErrMore {
			t.Errorf("Whole of %s from %v is %v, %d", form, b[:cut], got, e)
		}
	}
}
