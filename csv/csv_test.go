package csv

import (
	"regexp"
	"slices"
	"sort"
	"strings"
	"testing"

	"consignor/api"
	"consignor/samples"
)

// The chapter's words as patterns: a field and what stands behind it, and a text of such rows.
var (
	aField = regexp.MustCompile(`(?:"((?:[^"]|"")*)"|([^",\n\r]*))([,\n])`)
	aText  = regexp.MustCompile(`^(?:(?:(?:"(?:[^"]|"")*"|[^",\n\r]*),)*(?:"(?:[^"]|"")*"|[^",\n\r]*)\n)*$`)
)

func same(a, b [][]string) bool { return slices.EqualFunc(a, b, slices.Equal) }

// mayGoOn tells whether something behind a text makes it one of rows: a byte 10, or a quote and a byte 10.
func mayGoOn(s string) bool { return aText.MatchString(s+"\n") || aText.MatchString(s+"\"\n") }

// placed is a code, and where the byte behind a text is, by going through it.
func placed(ahead string, code int) api.Reject {
	r := api.Reject{Line: 1, Col: 1, Code: code}
	for _, b := range []byte(ahead) {
		r.Col++
		if b == '\n' {
			r.Line, r.Col = r.Line+1, 1
		}
	}
	return r
}

// rowsOf are the rows of a text that is one.
func rowsOf(s string) (rows [][]string) {
	row := []string{}
	for _, x := range aField.FindAllStringSubmatch(s, -1) {
		row = append(row, strings.ReplaceAll(x[1], `""`, `"`)+x[2])
		if x[3] == "\n" {
			rows, row = append(rows, row), []string{}
		}
	}
	return rows
}

// byPatterns is what is told of a text: a byte may not be there if nothing behind it makes the text one of rows.
func byPatterns(s string) ([][]string, api.Reject) {
	switch {
	case len(s) > 65536:
		return nil, api.Reject{Line: 1, Col: 1, Code: api.ReLong}
	case aText.MatchString(s):
		return rowsOf(s), api.Reject{}
	case aText.MatchString(s + "\n"):
		return nil, placed(s, api.ReWidth)
	case aText.MatchString(s + "\"\n"):
		return nil, placed(s, api.ReQuote)
	}
	// What may not go on does not behind more bytes either, so the first byte that may not be there is found by halves.
	at := sort.Search(len(s), func(i int) bool { return !mayGoOn(s[:i+1]) })
	return nil, placed(s[:at], api.ReQuote)
}

// byWords is rows as a text, byte by byte.
func byWords(rows [][]string) string {
	text := []byte{}
	for _, row := range rows {
		if len(row) == 0 {
			row = []string{""}
		}
		for i, field := range row {
			quotes, inside := "", []byte{}
			for _, b := range []byte(field) {
				switch b {
				case '"':
					inside = append(inside, '"')
					quotes = `"`
				case ',', 10, 13:
					quotes = `"`
				}
				inside = append(inside, b)
			}
			text = append(text, quotes+string(inside)+quotes...)
			if i < len(row)-1 {
				text = append(text, ',')
			}
		}
		text = append(text, 10)
	}
	return string(text)
}

// isParsed holds what is told of a text against the rows, or the reject, that are to be.
func isParsed(t *testing.T, s string, want [][]string, wantR api.Reject) {
	rows, r := Parse(s)
	if !same(rows, want) || r != wantR {
		t.Errorf("Parse(%.60q), of %d bytes: %.60q, %v; want %.60q, %v", s, len(s), rows, r, want, wantR)
	}
}

// isRead holds what is told of any text against the patterns, and what is printed of its rows against them.
func isRead(t *testing.T, s string) {
	want, wantR := byPatterns(s)
	isParsed(t, s, want, wantR)
	rows, r := Parse(s)
	if r != (api.Reject{}) {
		if rows != nil || r.Line < 1 || r.Col < 1 || r.Code == api.ReNone {
			t.Errorf("Parse(%.60q): %.60q beside %v", s, rows, r)
		}
		return
	}
	isPrinted(t, rows)
	if text := Print(rows); len(text) > len(s) {
		t.Errorf("%.60q, parsed and printed: %.60q, of more bytes", s, text)
	}
}

// isPrinted holds the text of rows against the words, and what is parsed of it against the rows.
func isPrinted(t *testing.T, rows [][]string) {
	text := Print(rows)
	if want := byWords(rows); text != want {
		t.Errorf("Print(%.60q): %.60q; want %.60q", rows, text, want)
	}
	if len(text) > 65536 {
		isParsed(t, text, nil, api.Reject{Line: 1, Col: 1, Code: api.ReLong})
		return
	}
	want := [][]string{}
	for _, row := range rows {
		if len(row) == 0 {
			row = []string{""}
		}
		want = append(want, row)
	}
	isParsed(t, text, want, api.Reject{})
}

// P4.1: the chapter's words of a field, and of a row, and rows one behind the other.
func TestPrint(t *testing.T) {
	for _, x := range []struct {
		rows [][]string
		want string
	}{
		{nil, ""}, {[][]string{}, ""},
		{[][]string{nil}, "\n"}, {[][]string{{}}, "\n"}, {[][]string{{""}}, "\n"}, {[][]string{{}, {""}, nil}, "\n\n\n"},
		{[][]string{{"a", "b"}}, "a,b\n"}, {[][]string{{"a"}, {"b"}}, "a\nb\n"}, {[][]string{{"", ""}}, ",\n"}, {[][]string{{"", "", ""}, {"", "a"}}, ",,\n,a\n"},
		{[][]string{{`a"b`, "c"}}, "\"a\"\"b\",c\n"}, {[][]string{{`"`}}, "\"\"\"\"\n"}, {[][]string{{`""`}}, "\"\"\"\"\"\"\n"}, {[][]string{{`"a"`}}, "\"\"\"a\"\"\"\n"},
		{[][]string{{","}}, "\",\"\n"}, {[][]string{{"\n"}}, "\"\n\"\n"}, {[][]string{{"\r"}}, "\"\r\"\n"}, {[][]string{{"a\r\nb"}}, "\"a\r\nb\"\n"},
		{[][]string{{" a "}, {"a b", "\t"}, {"#", "'", ";"}}, " a \na b,\t\n#,',;\n"}, {[][]string{{"\x00\xFF\x80"}}, "\x00\xFF\x80\n"}, {[][]string{{"ü\u2028"}}, "ü\u2028\n"},
		{[][]string{{"stock", "7"}, {"3", "reserve", "done", "4"}, {"end", "1"}}, "stock,7\n3,reserve,done,4\nend,1\n"},
	} {
		if text := Print(x.rows); text != x.want {
			t.Errorf("Print(%q): %q; want %q", x.rows, text, x.want)
		}
	}
}

// P4.1: of all bytes four lead to quotes: a comma, a quote, 10 and 13.
func TestPrintOfEachByte(t *testing.T) {
	for b := range 256 {
		for _, field := range []string{string([]byte{byte(b)}), string([]byte{'a', byte(b), 'z'})} {
			want := field + "\n"
			if b == 10 || b == 13 || b == ',' {
				want = `"` + want[:len(field)] + "\"\n"
			} else if b == '"' {
				want = `"` + strings.Replace(field, `"`, `""`, 1) + "\"\n"
			}
			if text := Print([][]string{{field}}); text != want {
				t.Errorf("Print of %q: %q; want %q", field, text, want)
			}
		}
	}
}

// P4.2: the chapter's examples, fields in quotes and not, and rows.
func TestParse(t *testing.T) {
	for _, x := range []struct {
		s    string
		want [][]string
	}{
		{"", nil},
		{"a,b\n", [][]string{{"a", "b"}}}, {"\n", [][]string{{""}}}, {"\"a\"\"b\",c\n", [][]string{{`a"b`, "c"}}},
		{"a\nb\n", [][]string{{"a"}, {"b"}}}, {"a\n\n", [][]string{{"a"}, {""}}}, {"\n\n", [][]string{{""}, {""}}}, {",\n", [][]string{{"", ""}}}, {",,\na,\n,a\n", [][]string{{"", "", ""}, {"a", ""}, {"", "a"}}},
		{"\"\"\n", [][]string{{""}}}, {"\"\",\"\"\n", [][]string{{"", ""}}}, {"\"\"\"\"\n", [][]string{{`"`}}}, {"\"\"\"\"\"\"\n", [][]string{{`""`}}}, {"\"\"\"a\"\"\"\n", [][]string{{`"a"`}}},
		{"\"a\"\n", [][]string{{"a"}}}, {"\"a,b\"\n", [][]string{{"a,b"}}}, {"\"a\nb\",c\n", [][]string{{"a\nb", "c"}}}, {"\"\n\"\n", [][]string{{"\n"}}}, {"\"\r\"\n", [][]string{{"\r"}}}, {"\"a\r\n\"\n", [][]string{{"a\r\n"}}},
		{"\"a\"\"\",\"\"\"b\"\n", [][]string{{`a"`, `"b`}}}, {"\"\"\",\"\"\"\n", [][]string{{`","`}}}, {"\"\n\"\"\n\"\n\n", [][]string{{"\n\"\n"}, {""}}},
		{" a , b\n", [][]string{{" a ", " b"}}}, {"\x00,\xFF\x80\n", [][]string{{"\x00", "\xFF\x80"}}}, {"ü,\u2028\n", [][]string{{"ü", "\u2028"}}}, {"\xEF\xBB\xBFa\n", [][]string{{"\xEF\xBB\xBFa"}}},
	} {
		isParsed(t, x.s, x.want, api.Reject{})
	}
}

// P4.2: the chapter's examples of bytes that may not be there, and where they are.
func TestParseOfNone(t *testing.T) {
	for s, want := range map[string]api.Reject{
		"a\"b\n": {Line: 1, Col: 2, Code: api.ReQuote}, "\"a\"b\n": {Line: 1, Col: 4, Code: api.ReQuote}, "a,b": {Line: 1, Col: 4, Code: api.ReWidth}, "\"a": {Line: 1, Col: 3, Code: api.ReQuote},
		// A quote, or a byte 13, in a field that does not begin with a quote.
		"a\"\n": {Line: 1, Col: 2, Code: api.ReQuote}, "a,b\"\n": {Line: 1, Col: 4, Code: api.ReQuote}, "\r\n": {Line: 1, Col: 1, Code: api.ReQuote}, "a\r\n": {Line: 1, Col: 2, Code: api.ReQuote},
		"a,\r\n": {Line: 1, Col: 3, Code: api.ReQuote}, "a\nb\r\n": {Line: 2, Col: 2, Code: api.ReQuote}, " \"a\"\n": {Line: 1, Col: 2, Code: api.ReQuote}, "\"a\nb\",c\"\n": {Line: 2, Col: 5, Code: api.ReQuote},
		"\xFF\"\n": {Line: 1, Col: 2, Code: api.ReQuote}, "ü\"\n": {Line: 1, Col: 3, Code: api.ReQuote}, "\n\n\r": {Line: 3, Col: 1, Code: api.ReQuote},
		// Another byte than a comma, or 10, behind the quote that ends a field.
		"\"a\"\r\n": {Line: 1, Col: 4, Code: api.ReQuote}, "\"\"a\n": {Line: 1, Col: 3, Code: api.ReQuote}, "\"\" \"\"\n": {Line: 1, Col: 3, Code: api.ReQuote}, "\"\n\n\" \n": {Line: 3, Col: 2, Code: api.ReQuote}, "a,\"b\"\xFF\n": {Line: 1, Col: 6, Code: api.ReQuote},
		// The text ends in quotes.
		"\"": {Line: 1, Col: 2, Code: api.ReQuote}, "\"\"\"": {Line: 1, Col: 4, Code: api.ReQuote}, "\"a\"\"": {Line: 1, Col: 5, Code: api.ReQuote}, "\"\n": {Line: 2, Col: 1, Code: api.ReQuote}, "a,\"b,\n": {Line: 2, Col: 1, Code: api.ReQuote}, "a\n\"b\r": {Line: 2, Col: 4, Code: api.ReQuote},
		// It does not end with a byte 10 outside of them.
		"a": {Line: 1, Col: 2, Code: api.ReWidth}, ",": {Line: 1, Col: 2, Code: api.ReWidth}, "a,": {Line: 1, Col: 3, Code: api.ReWidth}, "\"\"": {Line: 1, Col: 3, Code: api.ReWidth}, "\"a\"": {Line: 1, Col: 4, Code: api.ReWidth}, "a\nb": {Line: 2, Col: 2, Code: api.ReWidth}, "\"\n\"": {Line: 2, Col: 2, Code: api.ReWidth}, "\n\n,": {Line: 3, Col: 2, Code: api.ReWidth}, "\x00": {Line: 1, Col: 2, Code: api.ReWidth},
		// The first one of several.
		"a\rb\"c": {Line: 1, Col: 2, Code: api.ReQuote}, "\"a\"b\"": {Line: 1, Col: 4, Code: api.ReQuote}, "a\"\nb\"\n": {Line: 1, Col: 2, Code: api.ReQuote}, "a\n\"b\"\"\"c\n\r\n": {Line: 2, Col: 6, Code: api.ReQuote},
	} {
		isParsed(t, s, nil, want)
	}
}

// P4.2: up to MaxText bytes; beyond that nothing else is looked at.
func TestParseOfLong(t *testing.T) {
	for _, x := range []struct{ ahead, each, behind string }{
		{"", "a", "\n"}, {"", "\n", "\n"}, {"", ",", "\n"}, {"\"", "a", "\"\n"}, {"\"", "\n", "\"\n"}, {"\"", "\"\"", "\"\n"}, {"", "\"\",", "\n"}, {"", "a,\"b\"\"\n\",c\n", "\n"},
		{"", "a", ""}, {"", "\n", "\r"}, {"\"", "\"\"", ""}, {"\"", "\n", ""}, {"", "\"a\nb\"\n", "\""}, {"a\"", "\r", ""}, {"", "\x00", ""}, {"", "\xFF", "\n"},
	} {
		most := x.ahead + strings.Repeat(x.each, (65536-len(x.ahead+x.behind))/len(x.each)) + x.behind
		most = strings.Repeat("\n", 65536-len(most)) + most
		isRead(t, most)
		isRead(t, most[:65535])
		isRead(t, most+"a")
		isRead(t, strings.Repeat(most, 2))
	}
}

// P4.2, P4.3: all short texts of the bytes that mean something, and of some that do not.
func TestParseOfShort(t *testing.T) {
	for _, s := range samples.Texts(",\"\n\ra", 6) {
		isRead(t, s)
	}
	for _, s := range samples.Texts(",\"\n\ra\x00\xFF ", 4) {
		isRead(t, s)
	}
}

// P4.2, P4.3: each byte, in a field that begins with a quote, in one that does not, and behind quotes.
func TestParseOfEachByte(t *testing.T) {
	for b := range 256 {
		x := string([]byte{byte(b)})
		for _, s := range []string{x, x + "\n", "a" + x, "a" + x + "\n", "\"" + x + "\"\n", "\"" + x + "\n", "\"a\"" + x + "\n", "a," + x + "b\n", "\n" + x + "\n", "\"\n" + x + "\"" + x} {
			isRead(t, s)
		}
	}
}

// P4.3: rows of some fields.
func TestPrintedIsParsed(t *testing.T) {
	for _, field := range samples.Texts(",\"\n\ra\xFF", 4) {
		isPrinted(t, [][]string{{field}})
		isPrinted(t, [][]string{{field, "b"}, {"", field, field}, nil, {field}})
	}
	few := samples.Texts("\"\na", 2)
	for _, a := range few {
		for _, b := range few {
			for _, c := range few {
				isPrinted(t, [][]string{{a, b}, {c}})
				isPrinted(t, [][]string{{a}, {}, {b, c}})
			}
		}
	}
}

// P4.2, P4.3, of any bytes.
func FuzzParseOfAny(f *testing.F) {
	for _, s := range samples.Texts(",\"\n\ra", 3) {
		f.Add(s)
	}
	f.Add("stock,7\n3,reserve,done,4\nend,1\n")
	f.Fuzz(isRead)
}

// R4: rows that are handed in stay as they were; of rows that are told none is changed by another one's going on.
func TestRowsAreTheirOwn(t *testing.T) {
	rows := [][]string{{"a,b", "\""}, {}, nil, {""}}
	Print(rows)
	if !same(rows, [][]string{{"a,b", "\""}, {}, nil, {""}}) || rows[2] != nil {
		t.Errorf("printed, rows are %q", rows)
	}
	s := "a,b,c\nd,\"e\"\nf\n"
	told, _ := Parse(s)
	_ = append(told[0], "more")
	_ = append(told[1], "more")
	told[2][0] = "other"
	if want := [][]string{{"a", "b", "c"}, {"d", "e"}, {"other"}}; !same(told, want) {
		t.Errorf("gone on with, rows are %q; want %q", told, want)
	}
	isParsed(t, s, [][]string{{"a", "b", "c"}, {"d", "e"}, {"f"}}, api.Reject{})
}

// R2: asked again, the same is answered, whatever was asked between.
func TestSameAgain(t *testing.T) {
	for _, s := range samples.Texts(",\"\n\ra", 4) {
		rows, r := Parse(s)
		text := Print(rows)
		Parse("\"other")
		Print([][]string{{"other\n"}})
		isParsed(t, s, rows, r)
		if again := Print(rows); again != text {
			t.Errorf("Print(%q): %q, then %q", rows, text, again)
		}
	}
}
