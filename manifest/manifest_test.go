package manifest

import (
	"fmt"
	"math"
	"math/rand"
	"reflect"
	"slices"
	"strings"
	"testing"

	"consignor/api"
	"consignor/csv"
	"consignor/rows"
	"consignor/samples"
)

// The chapter's file, row by row.
const (
	first  = "manifest,2\n"
	second = "3,done:4,done:4\n"
	third  = "5,refused,-\n"
	last   = "end,2,8\n"
)

// of is a row of the carrier's.
func of(order, deed, code, qty int) api.Row {
	return api.Row{Key: api.Key{Order: order, Deed: deed}, Code: code, Qty: qty}
}

// ship and void are rows of what was done, refusal is one of what was not.
func ship(order, qty int) api.Row { return of(order, 2, 1, qty) }

func void(order, qty int) api.Row { return of(order, 5, 1, qty) }

func refusal(order, deed int) api.Row { return of(order, deed, 2, 0) }

// from is a statement of the carrier's.
func from(seq int, l ...api.Row) api.Statement {
	return api.Statement{Party: api.PaCarry, Seq: seq, Rows: l}
}

// chapters is the statement of the chapter's file.
func chapters() api.Statement { return from(2, ship(3, 4), void(3, 4), refusal(5, 2)) }

// full is the greatest statement: each key of the carrier's, the voids of every other order refused.
func full() api.Statement {
	s := from(1 << 30)
	for order := 1; order <= 60; order++ {
		s.Rows = append(s.Rows, ship(order, 999))
		if order%2 == 0 {
			s.Rows = append(s.Rows, refusal(order, 5))
		} else {
			s.Rows = append(s.Rows, void(order, 999))
		}
	}
	return s
}

// some are statements whose files are of many forms.
func some() []api.Statement {
	return []api.Statement{
		chapters(), from(1), from(1<<30, refusal(60, 5)),
		from(10, ship(3, 90), void(4, 0), ship(5, 0)),
		from(123456789, refusal(1, 2), void(1, 7), ship(3, 999), void(3, 999), ship(10, 127), refusal(10, 5), refusal(11, 2), refusal(11, 5), void(60, 10)),
	}
}

// isPrinted holds what is told of any statement against the words, and what is parsed of its file against it.
func isPrinted(t *testing.T, s api.Statement) {
	t.Helper()
	was := api.Statement{Party: s.Party, Seq: s.Seq, Rows: slices.Clone(s.Rows)}
	text, e := Print(s)
	want, ok := printedByWords(s)
	if text != want || (e == api.OK) != ok || (e != api.OK && e != api.ErrArg) {
		t.Errorf("Print(%s): %.300q, %d; want %.300q, %v", shown(s), text, e, want, ok)
	}
	if !rows.Same(s, was) {
		t.Errorf("Print(%s): it was handed in as %s", shown(s), shown(was))
	}
	if ok {
		isStatement(t, text, s)
	}
}

// isStatement holds that a text is parsed as a statement.
func isStatement(t *testing.T, text string, want api.Statement) {
	t.Helper()
	if s, r := Parse(text); !rows.Same(s, want) || r != (api.Reject{}) {
		t.Errorf("Parse(%.300q): %s, %v; want %s", text, shown(s), r, shown(want))
	}
}

// isParsed holds what is told of any text against the words, and what is printed of it against its rows.
func isParsed(t *testing.T, text string) {
	t.Helper()
	s, r := Parse(text)
	want, wrong := parsedByWords(text)
	if !rows.Same(s, want) || r != wrong {
		t.Errorf("Parse(%.300q): %s, %v; want %s, %v", text, shown(s), r, shown(want), wrong)
	}
	if r != (api.Reject{}) {
		if !reflect.DeepEqual(s, api.Statement{}) || r.Line < 1 || r.Col < 1 || r.Code == api.ReNone {
			t.Errorf("Parse(%.300q): %s beside %v", text, shown(s), r)
		}
		return
	}
	table, _ := csv.Parse(text)
	if again, e := Print(s); again != csv.Print(table) || e != api.OK || !rows.Valid(s) {
		t.Errorf("Print(%s), that was parsed of %.300q: %.300q, %d", shown(s), text, again, e)
	}
}

// shown is a text of anything, cut off where it grows too long to be read.
func shown(x any) string { return fmt.Sprintf("%.300s", fmt.Sprint(x)) }

// row is fields as a row of a file.
func row(fields ...string) string { return csv.Print([][]string{fields}) }

// P15.1: the files of some statements, written out.
func TestPrint(t *testing.T) {
	for _, x := range []struct {
		s    api.Statement
		want string
	}{
		{chapters(), first + second + third + last},
		{from(1), "manifest,1\nend,0,0\n"},
		{from(1 << 30), "manifest,1073741824\nend,0,0\n"},
		{from(10, ship(60, 999)), "manifest,10\n60,done:999,-\nend,1,999\n"},
		{from(10, void(60, 999)), "manifest,10\n60,-,done:999\nend,1,999\n"},
		{from(7, refusal(1, 5)), "manifest,7\n1,-,refused\nend,1,0\n"},
		{from(7, ship(1, 0), refusal(1, 5)), "manifest,7\n1,done:0,refused\nend,1,0\n"},
		{from(7, refusal(1, 2), void(1, 30)), "manifest,7\n1,refused,done:30\nend,1,30\n"},
		{from(7, refusal(1, 2), refusal(1, 5), void(2, 0), ship(3, 90), void(3, 20), refusal(9, 2), ship(10, 1)), "manifest,7\n1,refused,refused\n2,-,done:0\n3,done:90,done:20\n9,refused,-\n10,done:1,-\nend,5,111\n"},
	} {
		if text, e := Print(x.s); text != x.want || e != api.OK {
			t.Errorf("Print(%v): %q, %d; want %q", x.s, text, e, x.want)
		}
		isPrinted(t, x.s)
		isParsed(t, x.want)
	}
}

// P15.1: all that may be, of all rows; and those of which one is left out, comes twice, or stands elsewhere.
func TestPrintFull(t *testing.T) {
	text, e := Print(full())
	if e != api.OK || strings.Count(text, "\n") != 62 || !strings.HasPrefix(text, "manifest,1073741824\n1,done:999,done:999\n2,done:999,refused\n3,done:999,done:999\n") || !strings.HasSuffix(text, "\n60,done:999,refused\nend,60,89910\n") {
		t.Errorf("Print of all rows: %q, %d", text, e)
	}
	isPrinted(t, full())
	isParsed(t, text)
	for i := range full().Rows {
		less, twice, moved, rest := full(), full(), full(), full()
		less.Rows = slices.Delete(less.Rows, i, i+1)
		twice.Rows = slices.Insert(twice.Rows, i, twice.Rows[i])
		moved.Rows[i], moved.Rows[(i+1)%120] = moved.Rows[(i+1)%120], moved.Rows[i]
		rest.Rows = rest.Rows[i:]
		for _, s := range []api.Statement{less, twice, moved, rest} {
			isPrinted(t, s)
		}
	}
}

// P15.1: of a statement that may not be, or is another party's, no file.
func TestPrintNone(t *testing.T) {
	charge := api.Statement{Party: api.PaPay, Seq: 1, Rows: []api.Row{{Key: api.Key{Order: 1, Deed: 1}, Code: 1, Amount: 5}}}
	reserve := api.Statement{Party: api.PaStore, Seq: 1, Rows: []api.Row{{Key: api.Key{Order: 1, Deed: 0}, Code: 1, Qty: 5}}}
	paid := from(1, ship(1, 5))
	paid.Rows[0].Amount = 1
	l := []api.Statement{
		{}, {Seq: -1}, {Party: 0, Seq: 1}, {Party: 1, Seq: 1}, {Party: 3, Seq: 1}, {Party: -1, Seq: 1}, {Party: 258, Seq: 1}, {Party: 1<<32 + 2, Seq: 1}, {Party: math.MinInt + 2, Seq: 1},
		charge, reserve, paid, {Party: 0, Seq: 2, Rows: chapters().Rows}, {Party: 1, Seq: 2, Rows: chapters().Rows}, {Party: 2, Seq: 1, Rows: charge.Rows}, {Party: 2, Seq: 1, Rows: reserve.Rows},
		from(0, ship(3, 4)), from(-1, ship(3, 4)), from(1<<30+1, ship(3, 4)), from(math.MaxInt), from(math.MinInt), from(1<<32 + 1),
		from(1, ship(0, 5)), from(1, ship(61, 5)), from(1, ship(-1, 5)), from(1, ship(1, -1)), from(1, ship(1, 1000)), from(1, ship(1, math.MaxInt)), from(1, ship(1, math.MinInt)), from(1, ship(1, 1<<32)),
		from(1, of(1, 2, 0, 5)), from(1, of(1, 2, 0, 0)), from(1, of(1, 2, 3, 5)), from(1, of(1, 2, 2, 5)), from(1, of(1, 5, 2, 1)), from(1, of(1, 0, 1, 0)), from(1, of(1, 1, 1, 0)), from(1, of(1, 3, 1, 0)), from(1, of(1, 4, 1, 0)), from(1, of(1, 6, 1, 0)), from(1, of(1, -1, 1, 0)), from(1, api.Row{}),
		from(1, ship(1, 5), ship(1, 5)), from(1, void(1, 5), ship(1, 5)), from(1, ship(2, 5), ship(1, 5)), from(1, void(2, 5), void(1, 5)), from(1, ship(1, 5), api.Row{}), from(1, slices.Repeat(full().Rows, 4)...), from(1, make([]api.Row, 401)...),
	}
	for _, s := range l {
		if text, e := Print(s); text != "" || e != api.ErrArg {
			t.Errorf("Print(%s): %.300q, %d; want ErrArg", shown(s), text, e)
		}
		isPrinted(t, s)
	}
}

// wrong is a text of which there is no statement, and where it is wrong.
type wrong struct {
	text            string
	line, col, code int
}

// areWrong holds that texts are wrong just there.
func areWrong(t *testing.T, l []wrong) {
	t.Helper()
	for _, x := range l {
		s, r := Parse(x.text)
		if want := (api.Reject{Line: x.line, Col: x.col, Code: x.code}); !reflect.DeepEqual(s, api.Statement{}) || r != want {
			t.Errorf("Parse(%.300q): %s, %v; want %v", x.text, shown(s), r, want)
		}
		isParsed(t, x.text)
	}
}

// P15.2: the chapter's examples.
func TestExamples(t *testing.T) {
	isStatement(t, first+second+third+last, chapters())
	areWrong(t, []wrong{
		{first + second + third + "end,2,9\n", 4, 3, api.ReTotal},
		{first + second + "5,-,-\n" + last, 3, 2, api.ReField},
		{first + second + "3,refused,-\n" + last, 3, 1, api.ReOrder},
		{first + "3,done:04,done:4\n" + third + last, 2, 2, api.ReField},
	})
}

// P15.2: what is no CSV is told as csv.Parse does, ahead of all that the rows say; its lines are the text's.
func TestParseCSV(t *testing.T) {
	whole := first + second + third + last
	areWrong(t, []wrong{
		{"manifest,2", 1, 11, api.ReWidth}, {first + second + third + "end,2,8", 4, 8, api.ReWidth}, {whole + "x", 5, 2, api.ReWidth}, {whole + "\"", 5, 2, api.ReQuote}, {whole + "\r", 5, 1, api.ReQuote}, {"x", 1, 2, api.ReWidth},
		{"manifest,2\r\n" + second + third + last, 1, 11, api.ReQuote}, {"mani\"fest,2\n", 1, 5, api.ReQuote}, {"\"manifest\"x,2\n", 1, 11, api.ReQuote}, {"\"manifest\",2", 1, 13, api.ReWidth}, {"\"manifest,2\n", 2, 1, api.ReQuote}, {first + "3,\"done:4,done:4\n" + last, 4, 1, api.ReQuote}, {first + "3,done:\"4\",done:4\n" + last, 2, 8, api.ReQuote},
		// Rows that are wrong, and behind them what is no CSV.
		{"manifold,2\n" + second + "end,1,8", 3, 8, api.ReWidth}, {first + "61,refused,-\n" + "end,\"1\n", 4, 1, api.ReQuote}, {whole + last + "\r\n", 6, 1, api.ReQuote}, {"\n\n\"", 3, 2, api.ReQuote},
		// A row counts once, however many lines of the text it has.
		{"manifest,2\n3,\"refused\n\n\",-\n" + last, 2, 2, api.ReField}, {"manifest,2\n\"3\n\n\",refused,-\n" + last + "\r", 6, 1, api.ReQuote}, {"\"manifest\n\",2\n", 1, 1, api.ReHeader},
	})
	for _, x := range []struct {
		head, fill      string
		line, col, code int
	}{
		{whole, "\n", 5, 1, api.ReHeader}, {"", "\n", 1, 1, api.ReHeader}, {first, "\n", 2, 2, api.ReWidth}, {first, second, 3, 1, api.ReOrder}, {first + second + third, last, 5, 1, api.ReHeader}, {first, ",", 2, 4, api.ReWidth}, {first, "1", 2, 2, api.ReWidth}, {first + "3,done:", "0", 2, 3, api.ReWidth}, {first + second + third + "end,2,", "8", 4, 3, api.ReField},
	} {
		text := x.head + strings.Repeat(x.fill, (65535-len(x.head))/len(x.fill)) + "\n"
		areWrong(t, []wrong{{text, x.line, x.col, x.code}, {text + text, 1, 1, api.ReLong}})
	}
	long := strings.Repeat("\n", 65536)
	areWrong(t, []wrong{{whole + long[len(whole):], 5, 1, api.ReHeader}, {whole + long[len(whole)-1:], 1, 1, api.ReLong}, {whole + long, 1, 1, api.ReLong}, {long, 1, 1, api.ReHeader}, {long + "\n", 1, 1, api.ReLong}, {strings.Repeat("\"", 65537), 1, 1, api.ReLong}})
}

// P15.2: rows that are not there, that are too many, or begin with what they should not.
func TestParseRows(t *testing.T) {
	whole := first + second + third + last
	areWrong(t, []wrong{
		{"", 1, 1, api.ReHeader}, {first, 2, 1, api.ReHeader}, {first + second, 3, 1, api.ReHeader}, {first + second + third, 4, 1, api.ReHeader},
		{"\n", 1, 1, api.ReHeader}, {"\n" + whole, 1, 1, api.ReHeader}, {last, 1, 1, api.ReHeader}, {"end,0,0\n", 1, 1, api.ReHeader}, {second + third + last, 1, 1, api.ReHeader}, {"stock,2\n" + second + third + last, 1, 1, api.ReHeader},
		{"Manifest,2\n", 1, 1, api.ReHeader}, {"MANIFEST,2\n", 1, 1, api.ReHeader}, {" manifest,2\n", 1, 1, api.ReHeader}, {"manifest ,2\n", 1, 1, api.ReHeader}, {"manifests,2\n", 1, 1, api.ReHeader}, {"manifes,2\n", 1, 1, api.ReHeader}, {",manifest,2\n", 1, 1, api.ReHeader}, {"\xEF\xBB\xBFmanifest,2\n", 1, 1, api.ReHeader}, {"manifest\x00,2\n", 1, 1, api.ReHeader}, {"\"manifest\"\"\",2\n", 1, 1, api.ReHeader}, {"\"\",2\n", 1, 1, api.ReHeader}, {"\"manifest,2\"\n", 1, 1, api.ReHeader},
		// What does not begin with manifest is told so ahead of how many fields it has, and of its Seq.
		{"manifold\n", 1, 1, api.ReHeader}, {"manifold,2,2\n", 1, 1, api.ReHeader}, {"manifold,0\n", 1, 1, api.ReHeader},
		// Only the first row is the one with manifest; what begins with end in another way is an order's row.
		{first + first + last, 2, 3, api.ReWidth}, {first + "manifest,refused,-\n" + last, 2, 1, api.ReField}, {first + "End,0\n", 2, 3, api.ReWidth}, {first + "End,0,0\n", 2, 1, api.ReField}, {first + "end ,0,0\n", 2, 1, api.ReField}, {first + " end,0,0\n", 2, 1, api.ReField}, {first + "END,refused,-\n", 2, 1, api.ReField}, {first + "ends,refused,-\n", 2, 1, api.ReField}, {first + "en,refused,-\n", 2, 1, api.ReField},
		// Behind the end row, whatever it is.
		{whole + last, 5, 1, api.ReHeader}, {whole + first, 5, 1, api.ReHeader}, {whole + "6,refused,-\n", 5, 1, api.ReHeader}, {whole + "\n", 5, 1, api.ReHeader}, {whole + "\n\n", 5, 1, api.ReHeader}, {whole + "\"\"\n", 5, 1, api.ReHeader}, {whole + "x\n", 5, 1, api.ReHeader}, {whole + ",,,,\n", 5, 1, api.ReHeader}, {first + "end,0,0\nend,0,0\n", 3, 1, api.ReHeader},
		// An end row that is wrong is told ahead of what is behind it.
		{first + second + "end,2,8\n" + last, 3, 2, api.ReCount}, {first + second + "end,1,9\n" + last, 3, 3, api.ReTotal}, {first + second + "end\n" + last, 3, 2, api.ReWidth}, {first + second + "end,x,8\n" + last, 3, 2, api.ReField},
	})
}

// P15.2: rows that have fewer or more fields than they should: one more than the lesser one of both.
func TestParseWidths(t *testing.T) {
	areWrong(t, []wrong{
		{"manifest\n", 1, 2, api.ReWidth}, {"manifest,2,\n", 1, 3, api.ReWidth}, {"manifest,2,x,y,z\n", 1, 3, api.ReWidth}, {"manifest,0,x\n", 1, 3, api.ReWidth}, {"manifest\nmanifest,2\n", 1, 2, api.ReWidth}, {"\"manifest\"\n", 1, 2, api.ReWidth},
		{first + "\n" + last, 2, 2, api.ReWidth}, {first + "3\n" + last, 2, 2, api.ReWidth}, {first + "3,done:4\n" + last, 2, 3, api.ReWidth}, {first + "3,done:4,done:4,\n" + last, 2, 4, api.ReWidth}, {first + "3,done:4,done:4,-,-\n" + last, 2, 4, api.ReWidth}, {first + ",\n", 2, 3, api.ReWidth}, {first + ",,,\n", 2, 4, api.ReWidth}, {first + "\"3,done:4,done:4\"\n" + last, 2, 2, api.ReWidth},
		{first + second + "end\n", 3, 2, api.ReWidth}, {first + second + "end,1\n", 3, 3, api.ReWidth}, {first + second + "end,1,8,\n", 3, 4, api.ReWidth}, {first + second + "end,1,8,8,8\n", 3, 4, api.ReWidth}, {first + second + "\"end,1,8\"\n", 3, 2, api.ReWidth}, {first + second + "end,x\n", 3, 3, api.ReWidth}, {first + second + "end,x,x,x\n", 3, 4, api.ReWidth},
		// How many fields there are counts ahead of what they say.
		{first + "61,x\n", 2, 3, api.ReWidth}, {first + "5,-,-,-\n", 2, 4, api.ReWidth}, {first + second + "3,done:4,done:4,4\n", 3, 4, api.ReWidth}, {first + second + "2\n", 3, 2, api.ReWidth},
	})
	for many := 1; many < 300; many++ {
		if many != 2 {
			areWrong(t, []wrong{{"manifest" + strings.Repeat(",", many-1) + "\n", 1, min(many, 2) + 1, api.ReWidth}})
		}
		if many != 3 {
			commas, col := strings.Repeat(",", many-1), min(many, 3)+1
			areWrong(t, []wrong{{first + "3" + commas + "\n" + last, 2, col, api.ReWidth}, {first + "end" + commas + "\n", 2, col, api.ReWidth}})
		}
	}
}

// P15.2: first rows whose Seq may not be, and those with one that may.
func TestParseSeq(t *testing.T) {
	for _, seq := range append(samples.NotNumbers(), "0", "-1", "-7", "1073741825", "4294967297", "4294967298", "9223372036854775807", "-9223372036854775808", "-4294967295") {
		for _, behind := range []string{second + third + last, "", "end\n", "\n"} {
			areWrong(t, []wrong{{row("manifest", seq) + behind, 1, 2, api.ReField}})
		}
	}
	for _, seq := range []int{1, 2, 9, 10, 1<<30 - 1, 1 << 30} {
		text := fmt.Sprintf("manifest,%d\nend,0,0\n", seq)
		isStatement(t, text, from(seq))
		isParsed(t, text)
	}
}

// notCells are fields that are no cell of a Qty from 0 to 999.
func notCells() []string {
	l := []string{
		" ", "--", "- ", " -", "–", "none", "0", "4", "-1", "\x00", "-\n", "\"-\"",
		"Refused", "REFUSED", " refused", "refused ", "refuse", "refuseds", "refused:", "refused:0", "refused:4", "refused\x00", "refused\n", "refused,-",
		"done", "done:", "Done:4", "DONE:4", " done:4", "done :4", "don:4", "dones:4", ":4", "4:done", "done;4", "done4", "done 4", "done-4", "done::4", "done:done:4", "done:4:", "done:4,4", "done:4:4", "done:refused", "done:-", "\x00done:4", "done：4",
	}
	for _, qty := range append(samples.NotNumbers(), "-1", "1000", "-4", "1023", "1028", "4294967296", "4294967300", "9223372036854775807", "-9223372036854775808", "-4294967292") {
		l = append(l, "done:"+qty)
	}
	for _, cell := range samples.NotNumbers() {
		if cell != "-" {
			l = append(l, cell)
		}
	}
	return l
}

// P15.2: orders' rows whose Order, or one of whose cells, says nothing that may be, with whatever stands behind it.
func TestParseFields(t *testing.T) {
	orders := append(samples.NotNumbers(), "0", "61", "-1", "-3", "100", "256", "257", "4294967299", "9223372036854775807", "-9223372036854775808", "-4294967293", "manifest", "done:3", "refused")
	for _, order := range orders {
		for _, cells := range [][2]string{{"done:4", "done:4"}, {"refused", "-"}, {"-", "-"}, {"", ""}, {"x", "x"}, {"done:04", "-"}} {
			bad := row(order, cells[0], cells[1])
			areWrong(t, []wrong{{first + bad + last, 2, 1, api.ReField}, {first + second + bad, 3, 1, api.ReField}, {first + bad + "end\n", 2, 1, api.ReField}})
		}
	}
	for _, cell := range notCells() {
		for _, other := range []string{"done:4", "refused", "-", "", "x", "done:1000"} {
			bad := row("3", cell, other)
			areWrong(t, []wrong{{first + bad + last, 2, 2, api.ReField}, {first + "2,-,refused\n" + bad, 3, 2, api.ReField}, {first + bad + "end\n", 2, 2, api.ReField}})
		}
		for _, other := range []string{"done:4", "refused", "-"} {
			bad := row("3", other, cell)
			areWrong(t, []wrong{{first + bad + last, 2, 3, api.ReField}, {first + "2,-,refused\n" + bad, 3, 3, api.ReField}, {first + bad + "end\n", 2, 3, api.ReField}})
			// What is wrong in a field counts ahead of an Order that is not above the one ahead.
			areWrong(t, []wrong{{first + second + row("3", cell, other) + last, 3, 2, api.ReField}, {first + second + row("2", other, cell) + last, 3, 3, api.ReField}})
		}
	}
}

// P15.2: an order of which there is no row may not be there, wherever it stands.
func TestParseNoCell(t *testing.T) {
	for order := 1; order <= 60; order++ {
		bad := fmt.Sprintf("%d,-,-\n", order)
		areWrong(t, []wrong{
			{first + bad + "end,1,0\n", 2, 2, api.ReField}, {first + bad + "end,0,0\n", 2, 2, api.ReField}, {first + bad, 2, 2, api.ReField}, {first + bad + bad, 2, 2, api.ReField},
			{first + second + bad + "end,2,8\n", 3, 2, api.ReField}, {first + second + bad + "end,1,8\n", 3, 2, api.ReField}, {first + "60,refused,-\n" + bad, 3, 2, api.ReField},
		})
	}
	areWrong(t, []wrong{{first + "0,-,-\n", 2, 1, api.ReField}, {first + "61,-,-\n", 2, 1, api.ReField}, {first + "3,-,x\n", 2, 3, api.ReField}, {first + "3,-,\n", 2, 3, api.ReField}, {first + "3,,-\n", 2, 2, api.ReField}})
}

// P15.2: orders' rows that may be, of each order, and of each Qty in each cell.
func TestParseGood(t *testing.T) {
	for order := -1; order <= 130; order++ {
		for _, l := range [][]api.Row{{ship(order, 0)}, {ship(order, 999)}, {refusal(order, 2)}, {void(order, 0)}, {void(order, 999)}, {refusal(order, 5)}, {ship(order, 8), void(order, 9)}, {refusal(order, 2), refusal(order, 5)}, {ship(order, 1), refusal(order, 5)}, {refusal(order, 2), void(order, 1)}} {
			cells, total := [2]string{"-", "-"}, 0
			for _, r := range l {
				cells[r.Key.Deed/5] = map[int]string{1: fmt.Sprintf("done:%d", r.Qty), 2: "refused"}[r.Code]
				total += r.Qty
			}
			text := fmt.Sprintf("manifest,2\n%d,%s,%s\nend,1,%d\n", order, cells[0], cells[1], total)
			if order < 1 || order > 60 {
				areWrong(t, []wrong{{text, 2, 1, api.ReField}})
				continue
			}
			isStatement(t, text, from(2, l...))
			isParsed(t, text)
		}
	}
	for qty := -3; qty <= 1100; qty++ {
		shipped, voided := fmt.Sprintf("manifest,2\n3,done:%d,-\nend,1,%d\n", qty, qty), fmt.Sprintf("manifest,2\n3,-,done:%d\nend,1,%d\n", qty, qty)
		if qty < 0 || qty > 999 {
			areWrong(t, []wrong{{shipped, 2, 2, api.ReField}, {voided, 2, 3, api.ReField}})
			continue
		}
		isStatement(t, shipped, from(2, ship(3, qty)))
		isStatement(t, voided, from(2, void(3, qty)))
	}
}

// P15.2: of two rows each with each order, and whatever cells: just one above the other may be.
func TestParseOrder(t *testing.T) {
	cells := map[string]api.Row{"done:7,-": ship(0, 7), "-,done:7": void(0, 7)}
	for a := 1; a <= 12; a++ {
		for b := 1; b <= 12; b++ {
			for one, r := range cells {
				for other, q := range cells {
					text := first + fmt.Sprintf("%d,%s\n%d,%s\nend,2,14\n", a, one, b, other)
					if a >= b {
						areWrong(t, []wrong{{text, 3, 1, api.ReOrder}})
						continue
					}
					r.Key.Order, q.Key.Order = a, b
					isStatement(t, text, from(2, r, q))
					isParsed(t, text)
				}
			}
		}
	}
	// An Order is held against the one ahead, and not against all of them alone; what is behind is not told.
	areWrong(t, []wrong{
		{first + "1,done:1,-\n3,done:1,-\n2,done:1,-\nend,3,3\n", 4, 1, api.ReOrder}, {first + "1,done:1,-\n3,done:1,-\n1,-,done:1\nend,3,3\n", 4, 1, api.ReOrder}, {first + "2,done:1,-\n1,done:1,-\n3,done:1,-\nend,3,3\n", 3, 1, api.ReOrder}, {first + second + second + "x\n", 3, 1, api.ReOrder}, {first + "60,-,refused\n60,refused,-\nend\n", 3, 1, api.ReOrder},
	})
}

// P15.2: end rows that say no numbers from 0 on, the count's field first.
func TestParseEnd(t *testing.T) {
	for _, field := range append(samples.NotNumbers(), "-1", "-2", "-8", "-9223372036854775808", "-4294967294", "-4294967288", "done:8", "refused") {
		for _, total := range []string{"8", "0", "9", "x", "", "-1", "08"} {
			areWrong(t, []wrong{{first + second + third + row("end", field, total), 4, 2, api.ReField}, {first + row("end", field, total), 2, 2, api.ReField}})
		}
		areWrong(t, []wrong{
			{first + second + third + row("end", "2", field), 4, 3, api.ReField}, {first + row("end", "0", field), 2, 3, api.ReField}, {first + second + row("end", "1", field), 3, 3, api.ReField},
			// The count is told ahead of the other field.
			{first + second + third + row("end", "1", field), 4, 2, api.ReCount}, {first + second + third + row("end", "3", field), 4, 2, api.ReCount}, {first + row("end", "1", field), 2, 2, api.ReCount},
		})
	}
}

// P15.2: end rows that do not count the orders that were there, or do not sum their Qty.
func TestParseCounts(t *testing.T) {
	all, _ := Print(full())
	head, _, _ := strings.Cut(all, "end,")
	for _, x := range []struct {
		ahead       string
		many, total int
	}{{first, 0, 0}, {first + second, 1, 8}, {first + second + third, 2, 8}, {first + "3,done:1,done:2\n", 1, 3}, {first + "3,-,refused\n4,-,done:1\n5,refused,refused\n", 3, 1}, {head, 60, 89910}} {
		line := strings.Count(x.ahead, "\n") + 1
		numbers := []int{0, 1, 2, 3, 4, 6, 7, 8, 9, 10, 59, 60, 61, 119, 120, 121, 256, 257, 258, 264, 316, 400, 999, 24374, 59940, 89909, 89910, 89911, 119880, 1 << 32, 1<<32 + 1, 1<<32 + 2, 1<<32 + 8, 1<<32 + 60, 1<<32 + 89910, math.MaxInt}
		for _, n := range numbers {
			if n != x.many {
				areWrong(t, []wrong{{x.ahead + fmt.Sprintf("end,%d,%d\n", n, x.total), line, 2, api.ReCount}, {x.ahead + fmt.Sprintf("end,%d,%d\n", n, n+1-n/2), line, 2, api.ReCount}})
			}
			if n != x.total {
				areWrong(t, []wrong{{x.ahead + fmt.Sprintf("end,%d,%d\n", x.many, n), line, 3, api.ReTotal}})
			}
		}
		text := x.ahead + fmt.Sprintf("end,%d,%d\n", x.many, x.total)
		if _, r := Parse(text); r != (api.Reject{}) {
			t.Errorf("Parse(%.300q): %v", text, r)
		}
		isParsed(t, text)
	}
}

// P15.3: what is quoted otherwise is parsed as the same: each choice of fields of the chapter's file, each one of others, and all.
func TestQuoted(t *testing.T) {
	table := [][]string{{"manifest", "2"}, {"3", "done:4", "done:4"}, {"5", "refused", "-"}, {"end", "2", "8"}}
	for choice := range 1 << 11 {
		i := 0
		text := samples.Quoted(table, func(string) bool {
			i++
			return choice>>(i-1)&1 == 1
		})
		isStatement(t, text, chapters())
		isParsed(t, text)
	}
	for _, s := range append(some(), full()) {
		text, _ := Print(s)
		table, _ := csv.Parse(text)
		isStatement(t, samples.Quoted(table, func(string) bool { return true }), s)
		for only := range 2 + 3*len(table) {
			i := -1
			isStatement(t, samples.Quoted(table, func(string) bool { i++; return i == only }), s)
		}
	}
	// Where a field is wrong it is wrong in quotes, too, at the row and the field, not at the text's column.
	areWrong(t, []wrong{
		{"\"manifold\",\"2\"\n", 1, 1, api.ReHeader}, {"\"manifest\",\"02\"\n", 1, 2, api.ReField}, {first + "\"3\",\"done:4\",\"done:04\"\n" + last, 2, 3, api.ReField}, {first + "\"3\",\"-\",\"-\"\n" + last, 2, 2, api.ReField}, {first + second + "\"end\",\"1\",\"9\"\n", 3, 3, api.ReTotal}, {first + second + "\"end\",\"1\",\"8\"\n\"\"\n", 4, 1, api.ReHeader},
	})
}

// P15.2: of rows each with each fault in each field, the first one that is wrong.
func TestEachFault(t *testing.T) {
	ends := []string{"\n", "", ",\n", ",x,y\n", "\r\n", "\"\n"}
	samples.Choices{{"manifest", "manifold", "end", "3", "\"manifest\"", ""}, {",2", ",1073741824", ",0", ",1073741825", ",02", ",\"2\"", ""}, ends}.Each(func(row string) {
		isParsed(t, row+second+third+last)
		isParsed(t, row)
	})
	cells := []string{",done:4", ",done:0", ",refused", ",-", ",done:999", ",done:1000", ",done:04", ",done", ",", ",\"-\"", ""}
	samples.Choices{{"3", "2", "60", "61", "03", "end", "manifest", "\"3\""}, cells, cells, ends}.Each(func(row string) {
		isParsed(t, first+"2,-,refused\n"+row+"end,2,8\n")
		isParsed(t, first+row+"end,1,8\n")
		isParsed(t, first+row+"end,1,4\n")
		isParsed(t, first+row)
	})
	samples.Choices{{"end", "manifest", "4", ""}, {",1", ",0", ",2", ",-1", ",01", ",\"1\"", ""}, {",8", ",0", ",9", ",-8", ",08", ",\"8\"", ""}, ends, {"", "\n", "end,1,8\n", second}}.Each(func(row string) {
		isParsed(t, first+second+row)
		isParsed(t, first+row)
		isParsed(t, row)
	})
}

// P15.2, P15.3: files with each byte as each other one, left out, or put in; and cut off at each.
func TestEachByte(t *testing.T) {
	for _, s := range some() {
		text, _ := Print(s)
		for at := range len(text) {
			isParsed(t, text[:at])
			isParsed(t, text[at:])
			isParsed(t, text[:at]+text[at+1:])
			for b := range 256 {
				one := string([]byte{byte(b)})
				isParsed(t, text[:at]+one+text[at+1:])
				isParsed(t, text[:at]+one+text[at:])
				isParsed(t, text[:at]+one+"\n")
			}
		}
	}
}

// P15.2, P15.3: files with rows left out, twice, moved, and put behind one another.
func TestEachRow(t *testing.T) {
	for _, s := range some() {
		text, _ := Print(s)
		lines := strings.SplitAfter(text, "\n")
		lines = lines[:len(lines)-1]
		isJoined := func(l []string) { isParsed(t, strings.Join(l, "")) }
		for i := range lines {
			isJoined(slices.Delete(slices.Clone(lines), i, i+1))
			for j := range lines {
				isJoined(slices.Insert(slices.Clone(lines), j, lines[i]))
				isJoined(slices.Insert(slices.Delete(slices.Clone(lines), i, i+1), min(j, len(lines)-1), lines[i]))
			}
		}
		for _, other := range some() {
			behind, _ := Print(other)
			isParsed(t, text+behind)
			isParsed(t, text[:strings.LastIndex(text, "end")]+behind[strings.Index(behind, "\n")+1:])
		}
	}
}

// P15.2: all short texts of what means something.
func TestShortTexts(t *testing.T) {
	for _, s := range samples.Texts("1,\"\n-:", 5) {
		isParsed(t, s)
		isParsed(t, "manifest"+s)
		isParsed(t, first+s)
		isParsed(t, first+"end"+s)
		isParsed(t, first+"3,done"+s+",-\nend,1,1\n")
	}
}

// P15.1, P15.2: what is told is the caller's own: neither list changes the other one, and what is printed is looked at no more.
func TestOwn(t *testing.T) {
	s := full()
	text, _ := Print(s)
	a, _ := Parse(text)
	b, _ := Parse(text)
	clear(a.Rows)
	clear(s.Rows)
	if !rows.Same(b, full()) {
		t.Error("Parse: a list changed with another one")
	}
	if again, e := Print(b); again != text || e != api.OK {
		t.Errorf("Print of the same again: %q, %d; want %q", again, e, text)
	}
}

// P15.1 to P15.3: statements that may be, of any rows, are printed and parsed, also quoted anyhow; no two are printed alike.
func TestAnyStatement(t *testing.T) {
	r := rand.New(rand.NewSource(15))
	by := map[string]api.Statement{}
	for range 3000 {
		s := from(1 + r.Intn(1<<(1+r.Intn(30))))
		most := 1 + r.Intn(60)
		for order := 1; order <= 60; order++ {
			for _, deed := range []int{2, 5} {
				switch r.Intn(2 * most) {
				case 0:
					s.Rows = append(s.Rows, refusal(order, deed))
				case 1:
					s.Rows = append(s.Rows, of(order, deed, 1, r.Intn(1+r.Intn(1000))))
				}
			}
		}
		isPrinted(t, s)
		text, e := Print(s)
		if e != api.OK {
			t.Fatalf("Print(%v): %d", s, e)
		}
		isParsed(t, text)
		table, _ := csv.Parse(text)
		isStatement(t, samples.Quoted(table, func(string) bool { return r.Intn(2) == 0 }), s)
		if other, there := by[text]; there && !rows.Same(other, s) {
			t.Fatalf("%v and %v are printed as %q", s, other, text)
		}
		by[text] = s
	}
}

// P15.1 to P15.3, of any texts and numbers.
func FuzzAny(f *testing.F) {
	f.Add(first+second+third+last, 2, 7, 3, 2, 1, 4, int64(0))
	f.Add(first+second+third+"end,2,9\n", 0, 1<<30, 60, 5, 2, 0, int64(300))
	f.Add("\"manifest\",2\n1,refused,-\n3,-,done:20\nend,\"2\",20\n", -1, 0, 61, 6, 3, 1000, int64(1))
	f.Fuzz(func(t *testing.T, text string, party, seq, order, deed, code, qty int, amount int64) {
		isParsed(t, text)
		got, _ := Parse(text)
		for _, row := range []api.Row{
			{Key: api.Key{Order: order, Deed: deed}, Code: code, Amount: amount, Qty: qty},
			of(order%64, deed%8, code%4, qty%1010), of(order%64, deed%8, code%4, 0),
		} {
			for _, l := range [][]api.Row{{row}, append(slices.Clone(got.Rows), row), slices.Insert(slices.Clone(got.Rows), 0, row)} {
				isPrinted(t, api.Statement{Party: party, Seq: seq, Rows: l})
				isPrinted(t, from(seq%(1<<31), l...))
				isPrinted(t, from(got.Seq, l...))
			}
		}
	})
}
