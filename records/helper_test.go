package records_test

import (
	"bytes"
	"math"
	"math/big"
	"math/rand"
	"slices"
	"strings"
	"testing"

	"limewash/api"
	"limewash/records"
)

// letters are all kinds, and widths the bytes of those that are numbers of a fixed length.
const letters = "bwdqvsl"

var widths = map[byte]int{'b': 1, 'w': 2, 'd': 4, 'q': 8}

// num, str and list are values.
func num(n uint64) api.RcValue            { return api.RcValue{Num: n} }
func str(s string) api.RcValue            { return api.RcValue{Str: s} }
func list(l ...uint32) api.RcValue        { return api.RcValue{List: l} }
func text(n int) api.RcValue              { return str(strings.Repeat("x", n)) }
func elements(n int) api.RcValue          { return list(make([]uint32, n)...) }
func many(l ...api.RcValue) []api.RcValue { return l }

// lowFirst is n in size bytes, the lowest one first.
func lowFirst(n uint64, size int) []byte {
	if size == 0 {
		return nil
	}
	return append([]byte{byte(n % 256)}, lowFirst(n/256, size-1)...)
}

// grouped is n in groups of 7 bits.
func grouped(n uint64) []byte {
	if n < 128 {
		return []byte{byte(n)}
	}
	return append([]byte{byte(n%128 + 128)}, grouped(n/128)...)
}

// valueBytes is how the chapter writes a value of a kind.
func valueBytes(kind byte, v api.RcValue) []byte {
	switch kind {
	case 'v':
		return grouped(v.Num)
	case 's':
		return append(grouped(uint64(len(v.Str))), v.Str...)
	case 'l':
		b := grouped(uint64(len(v.List)))
		for _, x := range v.List {
			b = append(b, lowFirst(uint64(x), 4)...)
		}
		return b
	}
	return lowFirst(v.Num, widths[kind])
}

// valueError is why a value is not as a kind's values must be.
func valueError(kind byte, v api.RcValue) api.Errno {
	number := strings.IndexByte("bwdqv", kind) >= 0
	wide := new(big.Int).Exp(big.NewInt(256), big.NewInt(int64(widths[kind])), nil)
	switch {
	case v.Num != 0 && !number, v.Str != "" && kind != 's', len(v.List) != 0 && kind != 'l':
		return api.ErrArg
	case number && kind != 'v' && new(big.Int).SetUint64(v.Num).Cmp(wide) >= 0:
		return api.ErrRange
	case len(v.Str) > 400, len(v.List) > 60:
		return api.ErrLong
	}
	return api.OK
}

// formError is what is wrong with a form.
func formError(form string) api.Errno {
	if len(form) > 64 {
		return api.ErrLong
	}
	if strings.Trim(form, letters) != "" {
		return api.ErrArg
	}
	return api.OK
}

// encoded is what the chapter says of Encode.
func encoded(form string, l []api.RcValue) ([]byte, api.Errno) {
	if e := formError(form); e != api.OK {
		return nil, e
	}
	if len(l) != len(form) {
		return nil, api.ErrArg
	}
	var b []byte
	for i, v := range l {
		if e := valueError(form[i], v); e != api.OK {
			return nil, e
		}
		b = append(b, valueBytes(form[i], v)...)
	}
	if len(b) > 4000 {
		return nil, api.ErrLong
	}
	return b, api.OK
}

// ungrouped is the number of the kind v at the beginning of b, and how many bytes it has.
func ungrouped(b []byte) (n uint64, used int, e api.Errno) {
	last := slices.IndexFunc(b, func(c byte) bool { return c < 128 })
	switch {
	case last < 0 && len(b) < 10:
		return 0, 0, api.ErrMore
	case last < 0 || last >= 10:
		return 0, 0, api.ErrForm
	}
	sum := new(big.Int)
	for _, c := range slices.Backward(b[:last+1]) {
		sum.Add(sum.Mul(sum, big.NewInt(128)), big.NewInt(int64(c%128)))
	}
	if !sum.IsUint64() || len(grouped(sum.Uint64())) != last+1 {
		return 0, 0, api.ErrForm
	}
	return sum.Uint64(), last + 1, api.OK
}

// valueAt is the value of a kind at the beginning of b, and how many bytes it has.
func valueAt(kind byte, b []byte) (v api.RcValue, used int, e api.Errno) {
	if w := widths[kind]; w > 0 {
		if len(b) < w {
			return v, 0, api.ErrMore
		}
		for _, c := range slices.Backward(b[:w]) {
			v.Num = v.Num*256 + uint64(c)
		}
		return v, w, api.OK
	}
	n, used, e := ungrouped(b)
	switch {
	case e != api.OK:
		return v, 0, e
	case kind == 'v':
		return num(n), used, api.OK
	case kind == 's' && n > 400, kind == 'l' && n > 60:
		return v, 0, api.ErrLong
	case kind == 's' && len(b) < used+int(n), kind == 'l' && len(b) < used+4*int(n):
		return v, 0, api.ErrMore
	case kind == 's':
		return str(string(b[used : used+int(n)])), used + int(n), api.OK
	}
	for i := range int(n) {
		x := b[used+4*i:]
		v.List = append(v.List, uint32(x[0])+256*(uint32(x[1])+256*(uint32(x[2])+256*uint32(x[3]))))
	}
	return v, used + 4*int(n), api.OK
}

// decoded is what the chapter says of Decode.
func decoded(form string, b []byte) (l []api.RcValue, used int, e api.Errno) {
	if e := formError(form); e != api.OK {
		return nil, 0, e
	}
	for i := range len(form) {
		v, n, e := valueAt(form[i], b[used:])
		if e != api.OK {
			return nil, 0, e
		}
		l = append(l, v)
		used += n
	}
	if used > 4000 {
		return nil, 0, api.ErrLong
	}
	return l, used, api.OK
}

// sameValues reports whether l and m are the same values; lists may be nil or empty.
func sameValues(l, m []api.RcValue) bool {
	return slices.EqualFunc(l, m, func(v, w api.RcValue) bool {
		return v.Num == w.Num && v.Str == w.Str && slices.Equal(v.List, w.List)
	})
}

// cloned is a copy of l that shares no memory with it.
func cloned(l []api.RcValue) []api.RcValue {
	l = slices.Clone(l)
	for i := range l {
		l[i].List = slices.Clone(l[i].List)
	}
	return l
}

// checkEncode compares Encode and Size of l with what the chapter says, and looks whether l is left as it is.
func checkEncode(t *testing.T, form string, l []api.RcValue) []byte {
	t.Helper()
	before := cloned(l)
	want, wantError := encoded(form, l)
	got, e := records.Encode(form, l)
	if !bytes.Equal(got, want) || e != wantError {
		t.Errorf("Encode of %q with %v is %v, %d, not %v, %d", form, l, got, e, want, wantError)
	}
	for i := range got {
		got[i]++
	}
	if again, e := records.Encode(form, l); !bytes.Equal(again, want) || e != wantError {
		t.Errorf("Encode of %q with %v once more is %v, %d", form, l, again, e)
	}
	if n, e := records.Size(form, l); n != len(want) || e != wantError {
		t.Errorf("Size of %q with %v is %d, %d, not %d, %d", form, l, n, e, len(want), wantError)
	}
	if !sameValues(l, before) {
		t.Errorf("Encode or Size of %q has made %v of %v", form, l, before)
	}
	return want
}

// checkDecode compares Decode and Whole of b with what the chapter says, writes what was read, and looks whether b is left as it is.
func checkDecode(t *testing.T, form string, b []byte) {
	t.Helper()
	before := slices.Clone(b)
	want, wantUsed, wantError := decoded(form, b)
	l, used, e := records.Decode(form, b)
	if !sameValues(l, want) || used != wantUsed || e != wantError {
		t.Fatalf("Decode of %q from %v is %v, %d, %d, not %v, %d, %d", form, b, l, used, e, want, wantUsed, wantError)
	}
	if again, f := records.Encode(form, l); e == api.OK && (!bytes.Equal(again, b[:used]) || f != api.OK) {
		t.Errorf("Encode of %q with %v is %v, %d, not %v, from which it was read", form, l, again, f, b[:used])
	}
	if e == api.OK && used < len(b) {
		want, wantError = nil, api.ErrForm
	}
	if l, e := records.Whole(form, b); !sameValues(l, want) || e != wantError {
		t.Errorf("Whole of %q from %v is %v, %d, not %v, %d", form, b, l, e, want, wantError)
	}
	if !bytes.Equal(b, before) {
		t.Errorf("Decode or Whole of %q has made %v of %v", form, b, before)
	}
}

// samples are values of a kind, at both ends and between them.
func samples(kind byte) []api.RcValue {
	var l []api.RcValue
	switch kind {
	case 's':
		for _, n := range []int{0, 1, 2, 127, 128, 129, 255, 256, 257, 399, 400} {
			l = append(l, text(n))
		}
		return append(l, str("\x00"), str("\xff\x80"), str("\x00\x01"), str("é\n"))
	case 'l':
		for _, n := range []int{0, 1, 2, 3, 59, 60} {
			l = append(l, elements(n))
		}
		return append(l, list(1, 2), list(math.MaxUint32), list(255, 256, 1<<16, 1<<24, 1<<31), list(0x04030201, 0xfcfdfeff))
	}
	most := uint64(math.MaxUint64)
	if w := widths[kind]; w > 0 {
		most >>= 64 - 8*w
	}
	for i := range 64 {
		for _, n := range []uint64{1<<i - 1, 1 << i, 1<<i + 1, most - 1<<i, 0x0102030405060708 >> i, 0xfffefdfcfbfaf9f8 >> i} {
			if n <= most {
				l = append(l, num(n))
			}
		}
	}
	return append(l, num(most))
}

// someForm is a form of n kinds with values, the same in each call.
func someForm(r *rand.Rand, n int) (string, []api.RcValue) {
	var form []byte
	var l []api.RcValue
	for range n {
		kind := letters[r.Intn(len(letters))]
		all := samples(kind)
		form = append(form, kind)
		l = append(l, all[r.Intn(len(all))])
	}
	return string(form), l
}
