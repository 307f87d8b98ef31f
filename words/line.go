package words

import (
	"iter"
	"strings"

	"limewash/api"
)

// Split returns the fields of a line.
func Split(line string) ([]api.Field, api.Errno) {
	if len(line) > api.MaxLine {
		return nil, api.ErrLong
	}
	var l []api.Field
	for f, ok := range fields(line) {
		if !ok {
			return nil, api.ErrForm
		}
		l = append(l, f)
	}
	// The form of the whole line comes before what is too long in it.
	if tooLong(l) {
		return nil, api.ErrLong
	}
	return l, api.OK
}

// Join returns the line with the fields l.
func Join(l []api.Field) (string, api.Errno) {
	if tooLong(l) {
		return "", api.ErrLong
	}
	var line strings.Builder
	for i, f := range l {
		text, ok := writeField(f)
		if !ok {
			return "", api.ErrForm
		}
		if i > 0 {
			line.WriteByte(' ')
		}
		line.WriteString(text)
	}
	if line.Len() > api.MaxLine {
		return "", api.ErrLong
	}
	return line.String(), api.OK
}

// Lines returns the lines of a text.
func Lines(text string) ([]string, api.Errno) {
	if len(text) > api.MaxText {
		return nil, api.ErrLong
	}
	if text == "" {
		return nil, api.OK
	}
	inner, ok := strings.CutSuffix(text, "\n")
	if !ok {
		return nil, api.ErrForm
	}
	if strings.Count(text, "\n") > api.MaxLines {
		return nil, api.ErrLong
	}
	lines := strings.Split(inner, "\n")
	for i, line := range lines {
		lines[i] = strings.Clone(line) // results share no memory with arguments
	}
	return lines, api.OK
}

// fields yields the fields of a line, each with true; where the line goes on otherwise, it yields false and ends.
func fields(line string) iter.Seq2[api.Field, bool] {
	return func(yield func(api.Field, bool) bool) {
		if line == "" {
			return
		}
		var f api.Field
		var ok bool
		rest := line
	bare:
		if strings.HasPrefix(rest, `"`) {
			goto quoted
		}
		f.Quoted = false
		f.S, rest, ok = cutBare(rest)
		goto end
	quoted:
		f.Quoted = true
		f.S, rest, ok = cutQuoted(rest)
	end:
		if !ok {
			yield(api.Field{}, false)
			return
		}
		if !yield(f, true) || rest == "" {
			return
		}
		rest, ok = strings.CutPrefix(rest, " ")
		if ok {
			goto bare
		}
		yield(api.Field{}, false)
	}
}

// cutBare returns the bare field that s begins with, and what follows it; not ok: s does not begin with one.
func cutBare(s string) (text, rest string, ok bool) {
	n := bareLength(s)
	if n == 0 {
		return "", "", false
	}
	return strings.Clone(s[:n]), s[n:], true // results share no memory with arguments
}

// writeField returns what is written for f; not ok: f is bare, and may not be.
func writeField(f api.Field) (text string, ok bool) {
	if f.Quoted {
		return Quote(f.S), true
	}
	return f.S, f.S != "" && bareLength(f.S) == len(f.S)
}

// bareLength returns how many bytes at the beginning of s a bare field may have.
func bareLength(s string) int {
	n := 0
	for n < len(s) && s[n] != ' ' && isPlain(s[n]) {
		n++
	}
	return n
}

// tooLong reports whether l has more fields, or a longer one, than a line may have.
func tooLong(l []api.Field) bool {
	if len(l) > api.MaxFields {
		return true
	}
	for _, f := range l {
		if len(f.S) > api.MaxField {
			return true
		}
	}
	return false
}
