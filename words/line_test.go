package words_test

import (
	"regexp"
	"slices"
	"strings"
	"testing"

	"limewash/api"
	"limewash/words"
)

// A field and a line, as the chapter says them.
const fieldForm = `(?:[!#-\[\]-~]+|"(?:[ !#-\[\]-~]|\\["\\nrt]|\\x(?:0[0-8bcef]|1[0-9a-f]|7f|[89a-f][0-9a-f]))*")`

var (
	fieldRule = regexp.MustCompile(fieldForm)
	lineRule  = regexp.MustCompile(`\A(?:|` + fieldForm + `(?: ` + fieldForm + `)*)\z`)
)

// fieldsOf is the fields of a line that fits lineRule.
func fieldsOf(line string) []api.Field {
	var l []api.Field
	for _, s := range fieldRule.FindAllString(line, -1) {
		f := api.Field{S: s}
		if s[0] == '"' {
			f.S, _ = unquoted(s)
			f.Quoted = true
		}
		l = append(l, f)
	}
	return l
}

// bare and inQuotes are fields.
func bare(s string) api.Field     { return api.Field{S: s} }
func inQuotes(s string) api.Field { return api.Field{S: s, Quoted: true} }

// many is n times the field f.
func many(n int, f api.Field) []api.Field {
	var l []api.Field
	for range n {
		l = append(l, f)
	}
	return l
}

// TestSplitExamples: P1.3, P1.4 and P1.7, lines with their fields, both ways.
func TestSplitExamples(t *testing.T) {
	for line, want := range map[string][]api.Field{
		``:                      nil,
		`get / "a b"`:           {bare("get"), bare("/"), inQuotes("a b")},
		`a`:                     {bare("a")},
		`""`:                    {inQuotes("")},
		`"" ""`:                 {inQuotes(""), inQuotes("")},
		`"a" a`:                 {inQuotes("a"), bare("a")},
		`" "`:                   {inQuotes(" ")},
		`"\""`:                  {inQuotes("\"")},
		`"a\" b" c`:             {inQuotes("a\" b"), bare("c")},
		`"\\" "\n\r\t\x00\xff"`: {inQuotes("\\"), inQuotes("\n\r\t\x00\xff")},
		`! ~ #'[]^`:             {bare("!"), bare("~"), bare("#'[]^")},
		`a "b" c "d" "e" f g`:   {bare("a"), inQuotes("b"), bare("c"), inQuotes("d"), inQuotes("e"), bare("f"), bare("g")},
	} {
		got, e := words.Split(line)
		if !slices.Equal(got, want) || e != api.OK {
			t.Errorf("Split(%q) is %v, %d", line, got, e)
		}
		if s, e := words.Join(want); s != line || e != api.OK {
			t.Errorf("Join(%v) is %q, %d", want, s, e)
		}
	}
}

// checkSplit compares Split(line) with what the chapter says of a short line.
func checkSplit(t *testing.T, line string) {
	t.Helper()
	var want []api.Field
	e := api.ErrForm
	if lineRule.MatchString(line) {
		want, e = fieldsOf(line), api.OK
	}
	got, ge := words.Split(line)
	if !slices.Equal(got, want) || ge != e {
		t.Errorf("Split(%q) is %v, %d, not %v, %d", line, got, ge, want, e)
	}
	if ge != api.OK {
		return
	}
	if s, e := words.Join(got); s != line || e != api.OK {
		t.Errorf("Join(Split(%q)) is %q, %d", line, s, e)
	}
}

// TestSplitForms: P1.3 and P1.7, every short line.
func TestSplitForms(t *testing.T) {
	for line := range stringsOf("a \"\\n\t\xc3", 6) {
		checkSplit(t, line)
	}
}

// TestSplitBytes: P1.3, every byte alone, among others, inside quotes, and after them.
func TestSplitBytes(t *testing.T) {
	for c := range 256 {
		s := string([]byte{byte(c)})
		for _, line := range []string{s, "a" + s, s + "a", "a" + s + "b", "a " + s, s + " a", `"` + s + `"`, `"a` + s + `b"`, `"a"` + s, `"a"` + s + "b", `"a"` + s + `"b"`, s + `"a"`, `"\` + s + `"`, `\` + s} {
			checkSplit(t, line)
		}
	}
}

// TestSplitErrors: P1.3, what is too long, and which error comes first.
func TestSplitErrors(t *testing.T) {
	long := strings.Repeat("a", 2000)
	zeros := strings.Repeat(`\x00`, 2000)
	fours := strings.Join([]string{long, long, long, long}, " ")
	for _, x := range []struct {
		line string
		n    int
		e    api.Errno
	}{
		{"a  b", 0, api.ErrForm},
		{" ", 0, api.ErrForm},
		{" a", 0, api.ErrForm},
		{"a ", 0, api.ErrForm},
		{`"a" `, 0, api.ErrForm},
		{`"a"  "b"`, 0, api.ErrForm},
		{"a\n", 0, api.ErrForm},
		{"a b \"c", 0, api.ErrForm},
		{long, 1, api.OK},
		{long + "a", 0, api.ErrLong},
		{long + "a  b", 0, api.ErrForm},
		{long + "a \"", 0, api.ErrForm},
		{`"` + long + `"`, 1, api.OK},
		{`"` + long + `a"`, 0, api.ErrLong},
		{`"` + zeros + `"`, 1, api.OK},
		{`"` + zeros + `a"`, 0, api.ErrLong},
		{`"` + zeros + `a" `, 0, api.ErrForm},
		{`"` + zeros + `a`, 0, api.ErrForm},
		{fours, 4, api.OK},
		{fours + " " + strings.Repeat("b", 8192-len(fours)-1), 5, api.OK},
		{fours + " " + strings.Repeat("b", 8192-len(fours)), 0, api.ErrLong},
		{strings.Repeat("a", 8192), 0, api.ErrLong},
		{strings.Repeat("a", 8193), 0, api.ErrLong},
		{strings.Repeat(" ", 8192), 0, api.ErrForm},
		{strings.Repeat(" ", 8193), 0, api.ErrLong},
		{strings.Repeat("\x00", 1<<20), 0, api.ErrLong},
		{strings.Repeat("a ", 63) + "a", 64, api.OK},
		{strings.Repeat("a ", 64) + "a", 0, api.ErrLong},
		{strings.Repeat("a ", 64), 0, api.ErrForm},
		{strings.Repeat("a ", 100) + `"`, 0, api.ErrForm},
		{strings.Repeat(`"" `, 63) + `""`, 64, api.OK},
		{strings.Repeat(`"" `, 64) + `""`, 0, api.ErrLong},
	} {
		l, e := words.Split(x.line)
		if len(l) != x.n || e != x.e {
			t.Errorf("Split(%q) has %d fields, %d, not %d, %d", short(x.line), len(l), e, x.n, x.e)
		}
		if e != api.OK {
			continue
		}
		if s, e := words.Join(l); s != x.line || e != api.OK {
			t.Errorf("Join(Split(%q)) is %q, %d", short(x.line), short(s), e)
		}
	}
}

// TestJoinErrors: P1.4, fields that may not be, what is too long, and which error comes first.
func TestJoinErrors(t *testing.T) {
	long := strings.Repeat("a", 2000)
	zeros := strings.Repeat("\x00", 2000)
	fours := many(4, bare(long))
	with := func(l []api.Field, f ...api.Field) []api.Field { return append(slices.Clone(l), f...) }
	for i, x := range []struct {
		l []api.Field
		n int
		e api.Errno
	}{
		{nil, 0, api.OK},
		{[]api.Field{}, 0, api.OK},
		{[]api.Field{bare("")}, 0, api.ErrForm},
		{[]api.Field{bare("a"), bare("")}, 0, api.ErrForm},
		{[]api.Field{bare("a b")}, 0, api.ErrForm},
		{[]api.Field{bare("a\"")}, 0, api.ErrForm},
		{[]api.Field{inQuotes("a"), bare("\\")}, 0, api.ErrForm},
		{[]api.Field{bare("é")}, 0, api.ErrForm},
		{[]api.Field{inQuotes("")}, 2, api.OK},
		{many(64, bare("a")), 127, api.OK},
		{many(65, bare("a")), 0, api.ErrLong},
		{many(64, inQuotes("")), 64*2 + 63, api.OK},
		{many(65, inQuotes("")), 0, api.ErrLong},
		{many(65, bare("")), 0, api.ErrLong},
		{many(64, bare("")), 0, api.ErrForm},
		{[]api.Field{bare(long)}, 2000, api.OK},
		{[]api.Field{bare(long + "a")}, 0, api.ErrLong},
		{[]api.Field{inQuotes(long + "a")}, 0, api.ErrLong},
		{[]api.Field{bare(long + " ")}, 0, api.ErrLong},
		{[]api.Field{bare(""), bare(long + "a")}, 0, api.ErrLong},
		{[]api.Field{bare(" "), inQuotes(long + "a")}, 0, api.ErrLong},
		{[]api.Field{inQuotes(zeros)}, 8002, api.OK},
		{[]api.Field{inQuotes(zeros), bare(strings.Repeat("b", 189))}, 8192, api.OK},
		{[]api.Field{inQuotes(zeros), bare(strings.Repeat("b", 190))}, 0, api.ErrLong},
		{fours, 8003, api.OK},
		{with(fours, bare(strings.Repeat("b", 188))), 8192, api.OK},
		{with(fours, bare(strings.Repeat("b", 189))), 0, api.ErrLong},
		{with(fours, inQuotes(strings.Repeat("b", 186))), 8192, api.OK},
		{with(fours, inQuotes(strings.Repeat("b", 187))), 0, api.ErrLong},
		{with(fours, bare(strings.Repeat("b", 189)), bare("")), 0, api.ErrForm},
		{many(64, bare(long)), 0, api.ErrLong},
		{with(many(63, bare(long)), bare("\x00")), 0, api.ErrForm},
	} {
		s, e := words.Join(x.l)
		if len(s) != x.n || e != x.e {
			t.Errorf("%d: Join has %d bytes, %d, not %d, %d", i, len(s), e, x.n, x.e)
		}
		if e != api.OK {
			continue
		}
		if l, e := words.Split(s); !slices.Equal(l, x.l) || e != api.OK {
			t.Errorf("%d: Split of Join: %d", i, e)
		}
	}
}

// TestJoinBytes: P1.4 and P1.7, every byte in bare and in quoted fields.
func TestJoinBytes(t *testing.T) {
	for c := range 256 {
		s := string([]byte{byte(c)})
		for _, text := range []string{s, "a" + s, s + "a", "a" + s + "b"} {
			want, e := text, api.OK
			if c < 33 || c > 126 || c == '"' || c == '\\' {
				want, e = "", api.ErrForm
			}
			if got, ge := words.Join([]api.Field{bare(text)}); got != want || ge != e {
				t.Errorf("Join of %q is %q, %d", text, got, ge)
			}
			if got, ge := words.Join([]api.Field{inQuotes(text)}); got != quoted(text) || ge != api.OK {
				t.Errorf("Join of %q in quotes is %q, %d", text, got, ge)
			}
		}
	}
}

// TestJoinTogether: P1.8, lines that are put together, with a space between them.
func TestJoinTogether(t *testing.T) {
	lists := [][]api.Field{
		{bare("a")},
		{inQuotes("")},
		{inQuotes(" \x00\""), bare("get")},
		{bare("-"), bare("/"), inQuotes("b")},
		many(32, bare("x")),
		many(32, inQuotes(everyByte()[:20])),
	}
	for i, a := range lists {
		for j, b := range lists {
			first, e1 := words.Join(a)
			second, e2 := words.Join(b)
			both, e := words.Join(slices.Concat(a, b))
			if both != first+" "+second || e1 != api.OK || e2 != api.OK || e != api.OK {
				t.Errorf("%d and %d: %q and %q are %q, with %d, %d, %d", i, j, first, second, both, e1, e2, e)
			}
			if l, e := words.Split(first + " " + second); !slices.Equal(l, slices.Concat(a, b)) || e != api.OK {
				t.Errorf("%d and %d: Split is %v, %d", i, j, l, e)
			}
		}
	}
}

// TestLines: P1.5, lines, what is too long, and which error comes first.
func TestLines(t *testing.T) {
	blank := strings.Repeat("\n", 5000)
	for _, x := range []struct {
		text string
		want []string
		e    api.Errno
	}{
		{"", nil, api.OK},
		{"\n", []string{""}, api.OK},
		{"a\n", []string{"a"}, api.OK},
		{"\na\n\n", []string{"", "a", ""}, api.OK},
		{" a \r\n\x00\xff\n", []string{" a \r", "\x00\xff"}, api.OK},
		{strings.Repeat("b", 9000) + "\n", []string{strings.Repeat("b", 9000)}, api.OK},
		{"a", nil, api.ErrForm},
		{"a\nb", nil, api.ErrForm},
		{"a\r", nil, api.ErrForm},
		{"\n ", nil, api.ErrForm},
		{blank, make([]string, 5000), api.OK},
		{blank + "\n", nil, api.ErrLong},
		{blank + "x", nil, api.ErrForm},
		{blank + "\nx", nil, api.ErrForm},
		{blank[:4999] + "x\n", append(make([]string, 4999), "x"), api.OK},
		{strings.Repeat("x", 1<<20-1) + "\n", []string{strings.Repeat("x", 1<<20-1)}, api.OK},
		{strings.Repeat("x", 1<<20), nil, api.ErrForm},
		{strings.Repeat("x", 1<<20) + "\n", nil, api.ErrLong},
		{strings.Repeat("x", 1<<20+1), nil, api.ErrLong},
		{strings.Repeat("\n", 1<<20), nil, api.ErrLong},
	} {
		got, e := words.Lines(x.text)
		if !slices.Equal(got, x.want) || e != x.e {
			t.Errorf("Lines(%q) has %d lines, %d, not %d, %d", short(x.text), len(got), e, len(x.want), x.e)
		}
	}
}

// TestLinesBytes: P1.5, every byte but the line feed is in a line.
func TestLinesBytes(t *testing.T) {
	for c := range 256 {
		s := string([]byte{'a', byte(c), 'b'})
		want := []string{s}
		if c == '\n' {
			want = []string{"a", "b"}
		}
		if got, e := words.Lines(s + "\n"); !slices.Equal(got, want) || e != api.OK {
			t.Errorf("Lines of %q is %q, %d", s, got, e)
		}
		want = append(want, s[1:2])
		if c != '\n' {
			if got, e := words.Lines(s + "\n" + s[1:2] + "\n"); !slices.Equal(got, want) || e != api.OK {
				t.Errorf("Lines of %q twice is %q, %d", s, got, e)
			}
		}
	}
}

// TestLineMemory: P1.8, R3 and R6, what is done to a result changes neither another one nor what comes after it.
func TestLineMemory(t *testing.T) {
	const line = `get "a b" c`
	want := fieldsOf(line)
	first, _ := words.Split(line)
	second, _ := words.Split(line)
	for i := range first {
		first[i] = api.Field{S: "changed"}
	}
	_ = append(first[:0], many(3, bare("x"))...)
	third, _ := words.Split(line)
	if !slices.Equal(second, want) || !slices.Equal(third, want) {
		t.Errorf("Split is %v, then %v", second, third)
	}

	lines, _ := words.Lines("a\nb\n")
	other, _ := words.Lines("a\nb\n")
	lines[0] = "changed"
	again, _ := words.Lines("a\nb\n")
	if !slices.Equal(other, []string{"a", "b"}) || !slices.Equal(again, []string{"a", "b"}) {
		t.Errorf("Lines is %q, then %q", other, again)
	}

	whole := []api.Field{bare("a"), inQuotes("b"), bare(""), bare("d")}
	kept := slices.Clone(whole)
	joined, e := words.Join(whole[:2])
	if joined != `a "b"` || e != api.OK || !slices.Equal(whole, kept) {
		t.Errorf("Join is %q, %d, and leaves %v", joined, e, whole)
	}
	if _, e := words.Join(whole); e != api.ErrForm || !slices.Equal(whole, kept) {
		t.Errorf("Join is %d, and leaves %v", e, whole)
	}
	whole[0].S = "changed"
	if joined != `a "b"` {
		t.Errorf("the line has become %q", joined)
	}
}
