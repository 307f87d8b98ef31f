package words_test

import "iter"

// stringsOf yields every string of at most most bytes of the alphabet.
func stringsOf(alphabet string, most int) iter.Seq[string] {
	var below func(s string, yield func(string) bool) bool
	below = func(s string, yield func(string) bool) bool {
		if !yield(s) {
			return false
		}
		if len(s) == most {
			return true
		}
		for i := range len(alphabet) {
			if !below(s+alphabet[i:i+1], yield) {
				return false
			}
		}
		return true
	}
	return func(yield func(string) bool) {
		below("", yield)
	}
}

// everyByte is the bytes from 0 to 255.
func everyByte() string {
	var b []byte
	for c := range 256 {
		b = append(b, byte(c))
	}
	return string(b)
}

// short is s, cut to what a message can show.
func short(s string) string {
	if len(s) > 60 {
		return s[:60] + ".."
	}
	return s
}
