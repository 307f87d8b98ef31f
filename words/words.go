// Package words is layer 1: see shared/doc/01-words.md. It reads and writes names, numbers, quoted strings, lines of fields and lists of numbers, each in exactly one way.
package words

import (
	"strconv"
	"strings"

	"limewash/api"
)

// Name reports whether s is a name.
func Name(s string) bool {
	if s == "" || len(s) > api.MaxWord || !isLetter(s[0]) {
		return false
	}
	for i := range len(s) {
		if !isLetter(s[i]) && !isDigit(s[i]) && s[i] != '-' {
			return false
		}
	}
	return true
}

// Int returns the integer from low to high whose decimal form is s.
func Int(s string, low, high int64) (int64, api.Errno) {
	if !isDecimal(strings.TrimPrefix(s, "-")) || s == "-0" {
		return 0, api.ErrForm
	}
	// The form is right, so that ParseInt can only fail for an integer that is in no range.
	n, err := strconv.ParseInt(s, 10, 64)
	if err != nil || n < low || n > high {
		return 0, api.ErrRange
	}
	return n, api.OK
}

// Digits returns the decimal form of n.
func Digits(n int64) string {
	return strconv.FormatInt(n, 10)
}

// isDecimal reports whether s is the decimal form of an integer that is not negative, of any size.
func isDecimal(s string) bool {
	if s == "" || s[0] == '0' && s != "0" {
		return false
	}
	for i := range len(s) {
		if !isDigit(s[i]) {
			return false
		}
	}
	return true
}

func isLetter(c byte) bool {
	return 'a' <= c && c <= 'z'
}

func isDigit(c byte) bool {
	return '0' <= c && c <= '9'
}
