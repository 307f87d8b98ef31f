package words_test

import (
	"fmt"
	"strings"
	"testing"

	"limewash/api"
	"limewash/words"
)

// formOf is what stands for the byte c inside quotes, as the chapter says it.
func formOf(c byte) string {
	switch c {
	case '"':
		return `\"`
	case '\\':
		return `\\`
	case 10:
		return `\n`
	case 13:
		return `\r`
	case 9:
		return `\t`
	}
	if c >= 32 && c <= 126 {
		return string(rune(c))
	}
	return fmt.Sprintf(`\x%02x`, c)
}

// quoted is the quoted form of s.
func quoted(s string) string {
	var b strings.Builder
	b.WriteByte('"')
	for i := range len(s) {
		b.WriteString(formOf(s[i]))
	}
	b.WriteByte('"')
	return b.String()
}

// byteOf is the bytes by what stands for them inside quotes.
var byteOf = func() map[string]byte {
	m := map[string]byte{}
	for c := range 256 {
		m[formOf(byte(c))] = byte(c)
	}
	return m
}()

// unquoted is the string whose quoted form s is; no form is the beginning of another one, so that the first that fits is the one.
func unquoted(s string) (string, bool) {
	if len(s) < 2 || s[0] != '"' || s[len(s)-1] != '"' {
		return "", false
	}
	s = s[1 : len(s)-1]
	var b []byte
	for s != "" {
		n := 1
		for n <= 4 && n <= len(s) {
			if _, ok := byteOf[s[:n]]; ok {
				break
			}
			n++
		}
		if n > 4 || n > len(s) {
			return "", false
		}
		b = append(b, byteOf[s[:n]])
		s = s[n:]
	}
	return string(b), true
}

// checkUnquote compares Unquote(s) with what the chapter says.
func checkUnquote(t *testing.T, s string) {
	t.Helper()
	want, ok := unquoted(s)
	e := api.ErrForm
	if ok {
		e = api.OK
	}
	got, ge := words.Unquote(s)
	if got != want || ge != e {
		t.Errorf("Unquote(%q) is %q, %d, not %q, %d", s, got, ge, want, e)
	}
	if ge == api.OK && words.Quote(got) != s {
		t.Errorf("Quote(Unquote(%q)) is %q", s, words.Quote(got))
	}
}

// TestQuoteExamples: P1.2, the chapter's examples and other strings as they are written.
func TestQuoteExamples(t *testing.T) {
	for s, want := range map[string]string{
		"a\n\x00\"":    `"a\n\x00\""`,
		"":             `""`,
		" ":            `" "`,
		"a b":          `"a b"`,
		"\r\t\\":       `"\r\t\\"`,
		"\x07\x1f":     `"\x07\x1f"`,
		"\x7f\x80~":    `"\x7f\x80~"`,
		"é":            `"\xc3\xa9"`,
		"'/`":          "\"'/`\"",
		`\x41`:         `"\\x41"`,
		"\xab\xcd\xef": `"\xab\xcd\xef"`,
	} {
		if got := words.Quote(s); got != want {
			t.Errorf("Quote(%q) is %s, not %s", s, got, want)
		}
		if got, e := words.Unquote(want); got != s || e != api.OK {
			t.Errorf("Unquote(%s) is %q, %d", want, got, e)
		}
	}
	for _, s := range []string{`"\x41"`, `"\x7F"`, `"a`, ``, `"`, `a`, `a"`, `"\"`, `"\x"`, `"\x0"`, `"\x00`, `"a"b`, `"a""`, ` "a"`, `"a" `, `"\x22"`, `"\x5c"`, `"\x0a"`, `"\x0d"`, `"\x09"`, `"\x20"`, `"\x7e"`, `"\q"`, `"\0"`, `"\a"`, `"\'"`, `"\N"`, `"\X00"`, `"\u0000"`, `"\x+1"`, `"\x-1"`, `"\x 1"`, `"\x_1"`, "\"\n\"", "\"\x00\"", "\"\x7f\"", "\"\xff\"", `'a'`} {
		if got, e := words.Unquote(s); got != "" || e != api.ErrForm {
			t.Errorf("Unquote(%q) is %q, %d, not ErrForm", s, got, e)
		}
	}
}

// TestQuoteBytes: P1.2 and P1.7, every byte, alone, and before and after every other one.
func TestQuoteBytes(t *testing.T) {
	for a := range 256 {
		for b := range 257 {
			s := string([]byte{byte(a)})
			if b < 256 {
				s += string([]byte{byte(b)})
			}
			q := words.Quote(s)
			if q != quoted(s) {
				t.Errorf("Quote(%q) is %s", s, q)
			}
			if got, e := words.Unquote(q); got != s || e != api.OK {
				t.Errorf("Unquote(%s) is %q, %d", q, got, e)
			}
		}
	}
}

// TestUnquoteForms: P1.2, every short string inside quotes and without them.
func TestUnquoteForms(t *testing.T) {
	for s := range stringsOf("\"\\xn014aA \n\xe9", 5) {
		checkUnquote(t, `"`+s+`"`)
	}
	for s := range stringsOf("\"\\xnrt0a ", 5) {
		checkUnquote(t, s)
	}
}

// TestUnquoteEscapes: P1.2, every byte after a backslash, and every two bytes after \x.
func TestUnquoteEscapes(t *testing.T) {
	for a := range 256 {
		checkUnquote(t, string([]byte{'"', byte(a), '"'}))
		checkUnquote(t, string([]byte{'"', '\\', byte(a), '"'}))
		checkUnquote(t, string([]byte{'"', 'b', '\\', byte(a), 'c', '"'}))
		for b := range 256 {
			checkUnquote(t, string([]byte{'"', '\\', 'x', byte(a), byte(b), '"'}))
		}
	}
}

// TestQuoteLong: P1.2, strings have no limit, not even that of a text.
func TestQuoteLong(t *testing.T) {
	s := strings.Repeat(everyByte(), 2*api.MaxText/256) + "x"
	q := words.Quote(s)
	if q != quoted(s) {
		t.Errorf("Quote of %d bytes is wrong", len(s))
	}
	if got, e := words.Unquote(q); got != s || e != api.OK {
		t.Errorf("Unquote of %d bytes is wrong: %d", len(q), e)
	}
	if got, e := words.Unquote(q[:len(q)-1]); got != "" || e != api.ErrForm {
		t.Errorf("Unquote of %d bytes without the last quote: %d", len(q)-1, e)
	}
}
