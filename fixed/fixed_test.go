package fixed

import (
	"math"
	"regexp"
	"slices"
	"strings"
	"testing"

	"consignor/samples"
)

// The chapter's words as patterns: a field that has nothing that may not stand in it, and a byte that no line may have.
var (
	aField = regexp.MustCompile(`\A(?:[\x20-\x7E]*[\x21-\x7E])?\z`)
	anOdd  = regexp.MustCompile(`[^\x20-\x7E]`)
)

// few are bytes at both ends of what a line may have, and just beyond, and a byte 10.
const few = " !~a\x1F\x7F\x80\n"

// many is so many widths of one size.
func many(count, width int) []int { return slices.Repeat([]int{width}, count) }

// someWidths are lists of widths that may be.
func someWidths() [][]int {
	return [][]int{nil, {}, {1}, {2}, {3}, {4}, {1, 1}, {1, 2}, {2, 1}, {2, 3}, {1, 1, 1}, {1, 2, 1}, {1, 8, 10}, {1, 4, 8, 1, 14}, {1, 6, 16}, {1000}, {999, 1}, {1, 1000}, many(100, 1), many(100, 1000)}
}

// noWidths are lists of widths that may not be.
func noWidths() [][]int {
	return [][]int{
		{0}, {-1}, {1001}, {math.MaxInt}, {math.MinInt}, {1 << 32}, {1<<32 + 1}, {-1 << 32}, {256 * 256},
		{0, 1}, {1, 0}, {1, 0, 1}, {2, -1}, {3, -2, 3}, {1001, 1}, {1, 1001}, {1000, 1000, 1001}, {math.MaxInt, 1}, {math.MaxInt, math.MaxInt, 3}, {math.MinInt, math.MinInt, 1},
		many(101, 1), many(101, 1000), many(102, 1), many(1000, 1), many(1<<16, 1), append(many(99, 1), 0), append(many(99, 1000), 1001), append(many(100, 1), 0),
	}
}

// mayBe tells by the chapter's words whether widths may be.
func mayBe(widths []int) bool {
	return len(widths) <= 100 && !slices.ContainsFunc(widths, func(width int) bool { return width < 1 || width > 1000 })
}

// printedByWords is the line of fields, byte by byte.
func printedByWords(widths []int, fields []string) string {
	if !mayBe(widths) || len(fields) != len(widths) {
		return ""
	}
	line := []byte{}
	for i, field := range fields {
		if len(field) > widths[i] || !aField.MatchString(field) {
			return ""
		}
		for at := range widths[i] {
			if at < len(field) {
				line = append(line, field[at])
			} else {
				line = append(line, 32)
			}
		}
	}
	return string(line)
}

// parsedByWords is the fields of a line, byte by byte, or the column where it is wrong.
func parsedByWords(widths []int, line string) (fields []string, col int) {
	if !mayBe(widths) {
		return nil, 1
	}
	all := 0
	for _, width := range widths {
		all += width
	}
	if len(line) < all {
		return nil, len(line) + 1
	}
	if len(line) > all {
		return nil, all + 1
	}
	if odd := anOdd.FindStringIndex(line); odd != nil {
		return nil, odd[0] + 1
	}
	for at, i := 0, 0; i < len(widths); i++ {
		end := at + widths[i]
		for end > at && line[end-1] == 32 {
			end--
		}
		fields = append(fields, line[at:end])
		at += widths[i]
	}
	return fields, 0
}

// isPrinted holds what is told of any widths and fields against the words, and what is parsed of it against the fields.
func isPrinted(t *testing.T, widths []int, fields []string) {
	t.Helper()
	line, want := Print(widths, fields), printedByWords(widths, fields)
	if line != want {
		t.Errorf("Print(%.40v, %.60q): %.60q; want %.60q", widths, fields, line, want)
	}
	if want == "" {
		return
	}
	if again, col := Parse(widths, line); !slices.Equal(again, fields) || col != 0 {
		t.Errorf("Parse(%.40v, %.60q), that was printed of %.60q: %.60q, %d", widths, line, fields, again, col)
	}
}

// isParsed holds what is told of any widths and line against the words, and what is printed of it against the line.
func isParsed(t *testing.T, widths []int, line string) {
	t.Helper()
	fields, col := Parse(widths, line)
	if want, wantCol := parsedByWords(widths, line); !slices.Equal(fields, want) || col != wantCol {
		t.Errorf("Parse(%.40v, %.60q): %.60q, %d; want %.60q, %d", widths, line, fields, col, want, wantCol)
	}
	if (fields == nil) != (col > 0 || len(widths) == 0) {
		t.Errorf("Parse(%.40v, %.60q): %.60q beside %d", widths, line, fields, col)
	}
	if col != 0 {
		return
	}
	if again := Print(widths, fields); again != line {
		t.Errorf("Print(%.40v, %.60q), that were parsed of %.60q: %.60q", widths, fields, line, again)
	}
}

// P5.1: the chapter's examples, fields that fill their widths and not, and such as do not fit.
func TestPrint(t *testing.T) {
	for _, x := range []struct {
		widths []int
		fields []string
		want   string
	}{
		{[]int{2, 3}, []string{"a", "bcd"}, "a bcd"}, {[]int{2, 3}, []string{"abc", "b"}, ""}, {[]int{2, 3}, []string{"a"}, ""},
		{nil, nil, ""}, {[]int{}, []string{}, ""}, {nil, []string{""}, ""}, {nil, []string{"a"}, ""}, {[]int{1}, nil, ""},
		{[]int{2, 3}, []string{"ab", "cde"}, "abcde"}, {[]int{2, 3}, []string{"", ""}, "     "}, {[]int{2, 3}, []string{"", "b"}, "  b  "}, {[]int{2, 3}, []string{"a", ""}, "a    "},
		{[]int{2, 3}, []string{"a", "b", ""}, ""}, {[]int{2, 3}, []string{"a", "b", "c"}, ""}, {[]int{2, 3}, []string{"a", "bcde"}, ""}, {[]int{2, 3}, []string{"a", strings.Repeat("b", 1000)}, ""},
		// A blank may stand anywhere but at the end.
		{[]int{3}, []string{" a"}, " a "}, {[]int{3}, []string{"  a"}, "  a"}, {[]int{3}, []string{"a b"}, "a b"}, {[]int{3}, []string{"a "}, ""}, {[]int{3}, []string{"ab "}, ""}, {[]int{3}, []string{" "}, ""}, {[]int{3}, []string{"   "}, ""}, {[]int{3, 1}, []string{"a ", "b"}, ""}, {[]int{3}, []string{"ab  "}, ""},
		// Bytes, not letters, are counted, and held against 32 and 126.
		{[]int{3}, []string{"!~"}, "!~ "}, {[]int{3}, []string{"\x1F"}, ""}, {[]int{3}, []string{"\x7F"}, ""}, {[]int{3}, []string{"a\x00b"}, ""}, {[]int{3}, []string{"a\n"}, ""}, {[]int{3}, []string{"\ta"}, ""}, {[]int{3}, []string{"\x80"}, ""}, {[]int{3}, []string{"\xFFa"}, ""}, {[]int{3}, []string{"ü"}, ""}, {[]int{3}, []string{"\u00A0"}, ""}, {[]int{1, 1}, []string{"a", "\x7F"}, ""},
		{[]int{1, 8, 10}, []string{"H", "PAYMENT", "0000000005"}, "HPAYMENT 0000000005"}, {[]int{1, 4, 8, 1, 14}, []string{"D", "0003", "charge", "D", "00000000000300"}, "D0003charge  D00000000000300"},
	} {
		if line := Print(x.widths, x.fields); line != x.want {
			t.Errorf("Print(%v, %q): %q; want %q", x.widths, x.fields, line, x.want)
		}
		isPrinted(t, x.widths, x.fields)
	}
}

// P5.1: widths from 1 to 1000, up to 100 of them; of others nothing, whatever the fields.
func TestPrintOfWidths(t *testing.T) {
	for _, widths := range someWidths() {
		full, empty := make([]string, len(widths)), make([]string, len(widths))
		for i, width := range widths {
			full[i] = strings.Repeat("x", width)
		}
		isPrinted(t, widths, full)
		isPrinted(t, widths, empty)
		if line := Print(widths, full); len(line) != len(strings.Join(full, "")) || strings.Trim(line, "x") != "" {
			t.Errorf("Print of %d full fields: %.60q", len(full), line)
		}
		for i := range widths {
			wide := slices.Clone(full)
			wide[i] += "x"
			isPrinted(t, widths, wide)
			isPrinted(t, widths, full[i+1:])
		}
		isPrinted(t, widths, append(full, ""))
	}
	for _, widths := range noWidths() {
		for _, fields := range [][]string{make([]string, len(widths)), slices.Repeat([]string{"a"}, len(widths)), nil, {"a"}} {
			if line := Print(widths, fields); line != "" {
				t.Errorf("Print(%.40v, %.60q): %.60q; want nothing", widths, fields, line)
			}
		}
	}
}

// P5.1: all fields of few bytes, in each width round about theirs.
func TestPrintOfShort(t *testing.T) {
	for _, field := range samples.Texts(few, 4) {
		for width := -1; width <= 6; width++ {
			isPrinted(t, []int{width}, []string{field})
			isPrinted(t, []int{2, width, 1}, []string{"a", field, ""})
		}
	}
}

// P5.2: the chapter's examples, and fields that are empty, full, or have blanks.
func TestParse(t *testing.T) {
	for _, x := range []struct {
		widths []int
		line   string
		want   []string
		col    int
	}{
		{[]int{2, 3}, "a bcd", []string{"a", "bcd"}, 0}, {[]int{2, 3}, "a b", nil, 4}, {[]int{2, 3}, "\tbbcd", nil, 1},
		{[]int{2, 3}, "abcde", []string{"ab", "cde"}, 0}, {[]int{2, 3}, "     ", []string{"", ""}, 0}, {[]int{2, 3}, " a b ", []string{" a", " b"}, 0}, {[]int{2, 3}, "  b  ", []string{"", "b"}, 0}, {[]int{2, 3}, "a ", nil, 3},
		{nil, "", nil, 0}, {[]int{}, "", nil, 0}, {nil, "a", nil, 1}, {[]int{}, "\n", nil, 1}, {nil, " ", nil, 1},
		{[]int{3}, "a b", []string{"a b"}, 0}, {[]int{3}, "~!~", []string{"~!~"}, 0}, {[]int{1, 1}, " a", []string{"", "a"}, 0},
		// Shorter or longer, whatever the bytes are.
		{[]int{2, 3}, "", nil, 1}, {[]int{2, 3}, "a", nil, 2}, {[]int{2, 3}, "abcd", nil, 5}, {[]int{2, 3}, "abcdef", nil, 6}, {[]int{2, 3}, "abcde ", nil, 6}, {[]int{2, 3}, "abcde\n", nil, 6}, {[]int{2, 3}, strings.Repeat("a", 1000), nil, 6},
		{[]int{2, 3}, "\tbcd", nil, 5}, {[]int{2, 3}, "\n", nil, 2}, {[]int{2, 3}, "\tbcdef", nil, 6}, {[]int{3}, "üa", nil, 1}, {[]int{2}, "üa", nil, 3},
		// The first byte that may not be there.
		{[]int{2, 3}, "a\tbcd", nil, 2}, {[]int{2, 3}, "ab\x1Fcd", nil, 3}, {[]int{2, 3}, "abcd\x7F", nil, 5}, {[]int{2, 3}, "abc\n\n", nil, 4}, {[]int{2, 3}, "ab\x00\xFF\x00", nil, 3}, {[]int{2, 3}, "abc\x80d", nil, 4}, {[]int{2, 3}, "abcü", nil, 4}, {[]int{2, 3}, "    \r", nil, 5}, {[]int{2, 3}, "\xFF\x00\x01\x02\x03", nil, 1},
	} {
		if fields, col := Parse(x.widths, x.line); !slices.Equal(fields, x.want) || col != x.col {
			t.Errorf("Parse(%v, %q): %q, %d; want %q, %d", x.widths, x.line, fields, col, x.want, x.col)
		}
		isParsed(t, x.widths, x.line)
	}
}

// P5.2: widths from 1 to 1000, up to 100 of them; of others 1, whatever the line.
func TestParseOfWidths(t *testing.T) {
	for _, widths := range someWidths() {
		all := 0
		for _, width := range widths {
			all += width
		}
		for _, b := range []string{"x", " ", "x ", " x", "\x7F"} {
			line := strings.Repeat(b, all)[:all]
			isParsed(t, widths, line)
			isParsed(t, widths, line+b)
			isParsed(t, widths, line+line)
			if all > 0 {
				isParsed(t, widths, line[1:])
				isParsed(t, widths, line[1:]+"\x7F")
				isParsed(t, widths, "\x1F"+line[1:])
			}
		}
		isParsed(t, widths, "")
	}
	for _, widths := range noWidths() {
		for _, line := range []string{"", "a", "ab", "abc", "abcd", " ", "\x00", strings.Repeat("a", len(widths)), strings.Repeat("a", 101), strings.Repeat("a", 101000)} {
			if fields, col := Parse(widths, line); fields != nil || col != 1 {
				t.Errorf("Parse(%.40v, %.60q): %.60q, %d; want none, 1", widths, line, fields, col)
			}
		}
	}
}

// P5.2, P5.3: all lines of few bytes, against widths that they fill and such as they do not.
func TestParseOfShort(t *testing.T) {
	for _, line := range samples.Texts(few, 5) {
		for _, widths := range [][]int{nil, {1}, {3}, {5}, {1, 1}, {2, 1}, {2, 2}, {1, 3}, {2, 3}, {1, 1, 1}, {1, 2, 2}, {2, 0, 1}, {6, -1}} {
			isParsed(t, widths, line)
		}
	}
}

// P5.1, P5.2: of each byte whether it may stand in a field, at its end, and in a line.
func TestEachByte(t *testing.T) {
	for b := range 256 {
		x := string([]byte{byte(b)})
		may := b >= 32 && b <= 126
		for _, field := range []string{x + "a", "a" + x + "a", " " + x + "a", "a" + x, x} {
			isPrinted(t, []int{1, 4}, []string{"", field})
			want := may && (b != 32 || strings.HasSuffix(field, "a"))
			if line := Print([]int{1, 4}, []string{"", field}); (line != "") != want {
				t.Errorf("Print of %q: %q", field, line)
			}
		}
		for at := range 6 {
			line := "abcdef"[:at] + x + "ghijkl"[at+1:]
			isParsed(t, []int{2, 1, 3}, line)
			if fields, col := Parse([]int{2, 1, 3}, line); may != (col == 0) || !may && col != at+1 {
				t.Errorf("Parse of %q: %q, %d", line, fields, col)
			}
		}
	}
}

// P5.3: fields of all short texts side by side, so that what ends one of them is not taken for another one's.
func TestPrintedIsParsed(t *testing.T) {
	few := samples.Texts(" a~", 2)
	for _, a := range few {
		for _, b := range few {
			for _, c := range few {
				for _, widths := range [][]int{{2, 2, 2}, {1, 2, 3}, {3, 1, 2}} {
					isPrinted(t, widths, []string{a, b, c})
				}
			}
		}
	}
}

// P5.1 to P5.3, of any bytes: one list of widths is the bytes' numbers, the other one goes beyond what may be.
func FuzzAny(f *testing.F) {
	f.Add("\x02\x03", "a bcd")
	f.Add("\x02\x03", "\tbbcd")
	f.Add("\x01\x08\x0A", "HPAYMENT 0000000005")
	f.Add("", "")
	f.Add("\x00", "a")
	f.Add("\xC8", strings.Repeat("x", 200))
	f.Fuzz(func(t *testing.T, sizes, s string) {
		widths, wider := []int{}, []int{}
		fields, rest := []string{}, s
		for _, b := range []byte(sizes) {
			widths, wider = append(widths, int(b)), append(wider, int(b)*8-512)
			size := min(len(rest), int(b))
			fields, rest = append(fields, rest[:size]), rest[size:]
		}
		for _, l := range [][]int{widths, wider} {
			isParsed(t, l, s)
			isPrinted(t, l, fields)
			isPrinted(t, l, strings.Split(s, ","))
		}
	})
}

// R4: what is handed in stays as it was, also where it is found wrong, and is not looked at later; fields that are told are the caller's own.
func TestListsAreTheirOwn(t *testing.T) {
	widths, fields := []int{2, 3, 7, 9}, []string{"a", "bcd", "more", "more"}
	line := Print(widths[:2], fields[:2])
	told, _ := Parse(widths[:2], line)
	Print(widths, fields[:2])
	Print([]int{1, 1, 1, 1}, fields)
	Parse(widths, "\x00")
	if !slices.Equal(fields, []string{"a", "bcd", "more", "more"}) || !slices.Equal(widths, []int{2, 3, 7, 9}) {
		t.Errorf("printed and parsed, fields are %q, widths %v", fields, widths)
	}
	again, _ := Parse(widths[:2], line)
	_ = append(told, "other")
	told[0] = "other"
	widths[0], widths[1], fields[0] = 1, 4, "other"
	if !slices.Equal(again, []string{"a", "bcd"}) || !slices.Equal(told, []string{"other", "bcd"}) || line != "a bcd" {
		t.Errorf("changed, what was told is %q, %q and %q", line, told, again)
	}
}

// R2: asked again, the same is answered, whatever was asked between.
func TestSameAgain(t *testing.T) {
	for _, s := range samples.Texts(few, 3) {
		fields, col := Parse([]int{2, 1}, s)
		line := Print([]int{3}, []string{s})
		Parse([]int{0}, "other")
		Print([]int{5}, []string{"other"})
		again, colAgain := Parse([]int{2, 1}, s)
		if !slices.Equal(fields, again) || col != colAgain || Print([]int{3}, []string{s}) != line {
			t.Errorf("%q: %q, %d, then %q, %d; printed %q, then %q", s, fields, col, again, colAgain, line, Print([]int{3}, []string{s}))
		}
	}
}
