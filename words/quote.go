package words

import (
	"strconv"
	"strings"

	"limewash/api"
)

// escapes are the bytes that are written as a backslash and a letter of their own.
var escapes = [...]struct{ of, letter byte }{
	{'"', '"'},
	{'\\', '\\'},
	{'\n', 'n'},
	{'\r', 'r'},
	{'\t', 't'},
}

const hexDigits = "0123456789abcdef"

// Quote returns the quoted form of s.
func Quote(s string) string {
	b := make([]byte, 0, len(s)+2)
	b = append(b, '"')
	for i := range len(s) {
		b = appendByte(b, s[i])
	}
	return string(append(b, '"'))
}

// Unquote returns the string whose quoted form is s.
func Unquote(s string) (string, api.Errno) {
	text, rest, ok := cutQuoted(s)
	if !ok || rest != "" {
		return "", api.ErrForm
	}
	return text, api.OK
}

// cutQuoted returns the string whose quoted form s begins with, and what follows this form; not ok: s does not begin with one.
func cutQuoted(s string) (text, rest string, ok bool) {
	if !strings.HasPrefix(s, `"`) {
		return "", "", false
	}
	var b []byte
	rest = s[1:]
	for rest != "" && rest[0] != '"' {
		c, n := firstByte(rest)
		if n == 0 {
			return "", "", false
		}
		b = append(b, c)
		rest = rest[n:]
	}
	if rest == "" {
		return "", "", false
	}
	return string(b), rest[1:], true
}

// firstByte returns the byte that s, which is not empty, says first inside quotes, and in how many bytes it does; 0: it says none.
func firstByte(s string) (c byte, n int) {
	if isPlain(s[0]) {
		return s[0], 1
	}
	if s[0] != '\\' || len(s) < 2 {
		return 0, 0
	}
	for _, e := range escapes {
		if e.letter == s[1] {
			return e.of, 2
		}
	}
	if s[1] != 'x' || len(s) < 4 {
		return 0, 0
	}
	v, err := strconv.ParseUint(s[2:4], 16, 8)
	// A byte has one form only: upper case, and digits for a byte that is written shorter, are none.
	if err != nil || string(appendByte(nil, byte(v))) != s[:4] {
		return 0, 0
	}
	return byte(v), 4
}

// appendByte appends what stands for c inside quotes.
func appendByte(b []byte, c byte) []byte {
	if isPlain(c) {
		return append(b, c)
	}
	for _, e := range escapes {
		if e.of == c {
			return append(b, '\\', e.letter)
		}
	}
	return append(b, '\\', 'x', hexDigits[c>>4], hexDigits[c&15])
}

// isPlain reports whether c stands for itself inside quotes.
func isPlain(c byte) bool {
	return ' ' <= c && c <= '~' && c != '"' && c != '\\'
}
