package words_test

import (
	"math"
	"math/big"
	"regexp"
	"strconv"
	"strings"
	"testing"

	"limewash/api"
	"limewash/words"
)

// TestNameExamples: P1.1, the chapter's examples and the limits of a name's length.
func TestNameExamples(t *testing.T) {
	for s, want := range map[string]bool{
		"web-1":                  true,
		"Web":                    false,
		strings.Repeat("a", 17):  false,
		strings.Repeat("a", 16):  true,
		strings.Repeat("a", 300): false,
		"z":                      true,
		"":                       false,
		"a--":                    true,
		"a0":                     true,
		"0a":                     false,
		"-a":                     false,
		"a b":                    false,
		"a.b":                    false,
		"é":                      false,
		"aé":                     false,
	} {
		if words.Name(s) != want {
			t.Errorf("Name(%q) is not %v", s, want)
		}
	}
}

// TestNameBytes: P1.1, each byte at the beginning, in the middle and at the end of names of any length.
func TestNameBytes(t *testing.T) {
	for length := 1; length <= api.MaxWord; length++ {
		for at := range length {
			for c := range 256 {
				b := []byte(strings.Repeat("m", length))
				b[at] = byte(c)
				want := c >= 'a' && c <= 'z'
				if at > 0 {
					want = want || c >= '0' && c <= '9' || c == '-'
				}
				if words.Name(string(b)) != want {
					t.Errorf("Name(%q) is not %v", b, want)
				}
			}
		}
	}
}

// TestInt: P1.1, forms, ranges and which error comes first.
func TestInt(t *testing.T) {
	for _, x := range []struct {
		s         string
		low, high int64
		n         int64
		e         api.Errno
	}{
		{"007", 0, 10, 0, api.ErrForm},
		{"-0", 0, 10, 0, api.ErrForm},
		{"12", 0, 10, 0, api.ErrRange},
		{"0", 0, 0, 0, api.OK},
		{"10", 0, 10, 10, api.OK},
		{"11", 0, 10, 0, api.ErrRange},
		{"5", 5, 10, 5, api.OK},
		{"4", 5, 10, 0, api.ErrRange},
		{"-5", -5, -1, -5, api.OK},
		{"-6", -5, -1, 0, api.ErrRange},
		{"-1", -5, -1, -1, api.OK},
		{"0", -5, -1, 0, api.ErrRange},
		{"5", 6, 4, 0, api.ErrRange},
		{"5", 7, 3, 0, api.ErrRange},
		{"05", 6, 4, 0, api.ErrForm},
		{"+1", 5, 10, 0, api.ErrForm},
		{"00", 5, 10, 0, api.ErrForm},
		{"-00", 5, 10, 0, api.ErrForm},
		{"-01", -5, 10, 0, api.ErrForm},
		{"", 0, 10, 0, api.ErrForm},
		{"-", 0, 10, 0, api.ErrForm},
		{"--1", -5, 10, 0, api.ErrForm},
		{"-+1", -5, 10, 0, api.ErrForm},
		{"1-", 0, 10, 0, api.ErrForm},
		{" 1", 0, 10, 0, api.ErrForm},
		{"1 ", 0, 10, 0, api.ErrForm},
		{"1\n", 0, 10, 0, api.ErrForm},
		{"1_0", 0, 10, 0, api.ErrForm},
		{"0x1", 0, 10, 0, api.ErrForm},
		{"1e1", 0, 10, 0, api.ErrForm},
		{"1.0", 0, 10, 0, api.ErrForm},
		{"a", 0, 10, 0, api.ErrForm},
		{"1\x00", 0, 10, 0, api.ErrForm},
		{"٣", 0, 10, 0, api.ErrForm},
		{"9223372036854775807", math.MinInt64, math.MaxInt64, math.MaxInt64, api.OK},
		{"-9223372036854775808", math.MinInt64, math.MaxInt64, math.MinInt64, api.OK},
		{"9223372036854775808", math.MinInt64, math.MaxInt64, 0, api.ErrRange},
		{"-9223372036854775809", math.MinInt64, math.MaxInt64, 0, api.ErrRange},
		{"18446744073709551616", math.MinInt64, math.MaxInt64, 0, api.ErrRange},
		{"18446744073709551617", 0, 10, 0, api.ErrRange},
		{"-18446744073709551615", 0, 10, 0, api.ErrRange},
		{"1" + strings.Repeat("0", 5000), math.MinInt64, math.MaxInt64, 0, api.ErrRange},
		{"-1" + strings.Repeat("0", 5000), math.MinInt64, math.MaxInt64, 0, api.ErrRange},
		{strings.Repeat("9", 5000) + "x", math.MinInt64, math.MaxInt64, 0, api.ErrForm},
		{strings.Repeat("0", 5000) + "1", math.MinInt64, math.MaxInt64, 0, api.ErrForm},
	} {
		if n, e := words.Int(x.s, x.low, x.high); n != x.n || e != x.e {
			t.Errorf("Int(%q, %d, %d) is %d, %d, not %d, %d", short(x.s), x.low, x.high, n, e, x.n, x.e)
		}
	}
}

// TestIntForms: P1.1, every short string: it has the form just if it is how its integer is printed.
func TestIntForms(t *testing.T) {
	const low, high = -25, 102
	for s := range stringsOf("0125-+ x", 5) {
		want, e := int64(0), api.ErrForm
		n, err := strconv.ParseInt(s, 10, 64)
		if err == nil && strconv.FormatInt(n, 10) == s {
			e = api.ErrRange
			if n >= low && n <= high {
				want, e = n, api.OK
			}
		}
		if got, ge := words.Int(s, low, high); got != want || ge != e {
			t.Errorf("Int(%q, %d, %d) is %d, %d, not %d, %d", s, low, high, got, ge, want, e)
		}
	}
}

// TestIntBytes: P1.1, no byte but a digit is in a decimal form, and a minus sign at its beginning alone.
func TestIntBytes(t *testing.T) {
	for c := range 256 {
		for at := range 3 {
			b := []byte("444")
			b[at] = byte(c)
			digit := c >= '0' && c <= '9'
			minus := c == '-' && at == 0
			leading := c == '0' && at == 0
			want := api.ErrForm
			if (digit || minus) && !leading {
				want = api.OK
			}
			if _, e := words.Int(string(b), -1000, 1000); e != want {
				t.Errorf("Int(%q) is %d, not %d", b, e, want)
			}
		}
	}
}

// integers are integers around all powers of 2 and 10.
func integers() []int64 {
	l := []int64{0, math.MaxInt64, math.MinInt64, math.MinInt64 + 1}
	for i := range 63 {
		n := int64(1) << i
		l = append(l, n-1, n, n+1, -n+1, -n, -n-1)
	}
	for i, n := 0, int64(1); i < 19; i, n = i+1, n*10 {
		l = append(l, n-1, n, n+1, -n+1, -n, -n-1)
	}
	return l
}

// TestDigits: P1.1 and P1.7, Digits prints the decimal form, and Int and Digits undo each other.
func TestDigits(t *testing.T) {
	form := regexp.MustCompile(`\A(0|-?[1-9][0-9]*)\z`)
	for _, n := range integers() {
		s := words.Digits(n)
		if s != big.NewInt(n).String() || !form.MatchString(s) {
			t.Errorf("Digits(%d) is %q", n, s)
		}
		if got, e := words.Int(s, n, n); got != n || e != api.OK {
			t.Errorf("Int(%q) is %d, %d", s, got, e)
		}
		if n > math.MinInt64 {
			if got, e := words.Int(s, math.MinInt64, n-1); got != 0 || e != api.ErrRange {
				t.Errorf("Int(%q) up to %d is %d, %d", s, n-1, got, e)
			}
		}
		if n < math.MaxInt64 {
			if got, e := words.Int(s, n+1, math.MaxInt64); got != 0 || e != api.ErrRange {
				t.Errorf("Int(%q) from %d on is %d, %d", s, n+1, got, e)
			}
		}
	}
}
