package stock

import (
	"fmt"
	"math"
	"math/rand"
	"reflect"
	"slices"
	"strings"
	"testing"

	"consignor/api"
	"consignor/csv"
	"consignor/rows"
	"consignor/samples"
)

// The chapter's file, row by row.
const (
	first  = "stock,7\n"
	second = "3,reserve,done,4\n"
	last   = "end,1\n"
)

// of is a row of the warehouse's.
func of(order, deed, code, qty int) api.Row {
	return api.Row{Key: api.Key{Order: order, Deed: deed}, Code: code, Qty: qty}
}

// reserve and release are rows of what was done, refusal is one of what was not.
func reserve(order, qty int) api.Row { return of(order, 0, 1, qty) }

func release(order, qty int) api.Row { return of(order, 3, 1, qty) }

func refusal(order, deed int) api.Row { return of(order, deed, 2, 0) }

// from is a statement of the warehouse's.
func from(seq int, l ...api.Row) api.Statement {
	return api.Statement{Party: api.PaStore, Seq: seq, Rows: l}
}

// full is the greatest statement: each key of the warehouse's, the releases of every other order refused.
func full() api.Statement {
	s := from(1 << 30)
	for order := 1; order <= 60; order++ {
		s.Rows = append(s.Rows, reserve(order, 999))
		if order%2 == 0 {
			s.Rows = append(s.Rows, refusal(order, 3))
		} else {
			s.Rows = append(s.Rows, release(order, 999))
		}
	}
	return s
}

// some are statements whose files are of many forms.
func some() []api.Statement {
	return []api.Statement{
		from(7, reserve(3, 4)), from(1), from(1<<30, refusal(60, 0)),
		from(10, reserve(3, 90), release(3, 90), reserve(4, 0)),
		from(123456789, refusal(1, 0), reserve(2, 0), reserve(3, 999), release(3, 999), reserve(10, 127), refusal(10, 3), release(60, 10)),
	}
}

// isPrinted holds what is told of any statement against the words, and what is parsed of its file against it.
func isPrinted(t *testing.T, s api.Statement) {
	t.Helper()
	was := api.Statement{Party: s.Party, Seq: s.Seq, Rows: slices.Clone(s.Rows)}
	text, e := Print(s)
	want, ok := printedByWords(s)
	if text != want || (e == api.OK) != ok || (e != api.OK && e != api.ErrArg) {
		t.Errorf("Print(%s): %.300q, %d; want %.300q, %v", shown(s), text, e, want, ok)
	}
	if !rows.Same(s, was) {
		t.Errorf("Print(%s): it was handed in as %s", shown(s), shown(was))
	}
	if ok {
		isStatement(t, text, s)
	}
}

// isStatement holds that a text is parsed as a statement.
func isStatement(t *testing.T, text string, want api.Statement) {
	t.Helper()
	if s, r := Parse(text); !rows.Same(s, want) || r != (api.Reject{}) {
		t.Errorf("Parse(%.300q): %s, %v; want %s", text, shown(s), r, shown(want))
	}
}

// isParsed holds what is told of any text against the words, and what is printed of it against its rows.
func isParsed(t *testing.T, text string) {
	t.Helper()
	s, r := Parse(text)
	want, wrong := parsedByWords(text)
	if !rows.Same(s, want) || r != wrong {
		t.Errorf("Parse(%.300q): %s, %v; want %s, %v", text, shown(s), r, shown(want), wrong)
	}
	if r != (api.Reject{}) {
		if !reflect.DeepEqual(s, api.Statement{}) || r.Line < 1 || r.Col < 1 || r.Code == api.ReNone {
			t.Errorf("Parse(%.300q): %s beside %v", text, shown(s), r)
		}
		return
	}
	table, _ := csv.Parse(text)
	if again, e := Print(s); again != csv.Print(table) || e != api.OK || !rows.Valid(s) {
		t.Errorf("Print(%s), that was parsed of %.300q: %.300q, %d", shown(s), text, again, e)
	}
}

// shown is a text of anything, cut off where it grows too long to be read.
func shown(x any) string { return fmt.Sprintf("%.300s", fmt.Sprint(x)) }

// P14.1: the files of some statements, written out.
func TestPrint(t *testing.T) {
	for _, x := range []struct {
		s    api.Statement
		want string
	}{
		{from(7, reserve(3, 4)), first + second + last},
		{from(1), "stock,1\nend,0\n"},
		{from(1 << 30), "stock,1073741824\nend,0\n"},
		{from(10, release(60, 999)), "stock,10\n60,release,done,999\nend,1\n"},
		{from(7, refusal(1, 0), reserve(2, 0), reserve(3, 90), release(3, 20), refusal(10, 3)), "stock,7\n1,reserve,refused,0\n2,reserve,done,0\n3,reserve,done,90\n3,release,done,20\n10,release,refused,0\nend,5\n"},
	} {
		if text, e := Print(x.s); text != x.want || e != api.OK {
			t.Errorf("Print(%v): %q, %d; want %q", x.s, text, e, x.want)
		}
		isPrinted(t, x.s)
		isParsed(t, x.want)
	}
}

// P14.1: all that may be, of all rows; and those of which one is left out, comes twice, or stands elsewhere.
func TestPrintFull(t *testing.T) {
	text, e := Print(full())
	if e != api.OK || strings.Count(text, "\n") != 122 || !strings.HasPrefix(text, "stock,1073741824\n1,reserve,done,999\n1,release,done,999\n2,reserve,done,999\n2,release,refused,0\n") || !strings.HasSuffix(text, "\n60,release,refused,0\nend,120\n") {
		t.Errorf("Print of all rows: %q, %d", text, e)
	}
	isPrinted(t, full())
	isParsed(t, text)
	for i := range full().Rows {
		less, twice, moved := full(), full(), full()
		less.Rows = slices.Delete(less.Rows, i, i+1)
		twice.Rows = slices.Insert(twice.Rows, i, twice.Rows[i])
		moved.Rows[i], moved.Rows[(i+1)%120] = moved.Rows[(i+1)%120], moved.Rows[i]
		for _, s := range []api.Statement{less, twice, moved} {
			isPrinted(t, s)
		}
	}
}

// P14.1: of a statement that may not be, or is another party's, no file.
func TestPrintNone(t *testing.T) {
	charge := api.Statement{Party: api.PaPay, Seq: 1, Rows: []api.Row{{Key: api.Key{Order: 1, Deed: 1}, Code: 1, Amount: 5}}}
	ship := api.Statement{Party: api.PaCarry, Seq: 1, Rows: []api.Row{{Key: api.Key{Order: 1, Deed: 2}, Code: 1, Qty: 5}}}
	paid := from(1, reserve(1, 5))
	paid.Rows[0].Amount = 1
	l := []api.Statement{
		{}, {Seq: -1}, {Party: 0, Seq: 1}, {Party: 2, Seq: 1}, {Party: 3, Seq: 1}, {Party: -1, Seq: 1}, {Party: 257, Seq: 1}, {Party: 1<<32 + 1, Seq: 1}, {Party: math.MinInt + 1, Seq: 1},
		charge, ship, paid, {Party: 0, Seq: 7, Rows: []api.Row{reserve(3, 4)}}, {Party: 2, Seq: 7, Rows: []api.Row{reserve(3, 4)}}, {Party: 1, Seq: 1, Rows: charge.Rows}, {Party: 1, Seq: 1, Rows: ship.Rows},
		from(0, reserve(3, 4)), from(-1, reserve(3, 4)), from(1<<30+1, reserve(3, 4)), from(math.MaxInt), from(math.MinInt), from(1<<32 + 1),
		from(1, reserve(0, 5)), from(1, reserve(61, 5)), from(1, reserve(-1, 5)), from(1, reserve(1, -1)), from(1, reserve(1, 1000)), from(1, reserve(1, math.MaxInt)), from(1, reserve(1, math.MinInt)), from(1, reserve(1, 1<<32)),
		from(1, of(1, 0, 0, 5)), from(1, of(1, 0, 3, 5)), from(1, of(1, 0, 2, 5)), from(1, of(1, 1, 1, 0)), from(1, of(1, 2, 1, 0)), from(1, of(1, 4, 1, 0)), from(1, of(1, 5, 1, 0)), from(1, of(1, 6, 1, 0)), from(1, of(1, -1, 1, 0)), from(1, api.Row{}),
		from(1, reserve(1, 5), reserve(1, 5)), from(1, release(1, 5), reserve(1, 5)), from(1, reserve(2, 5), reserve(1, 5)), from(1, reserve(1, 5), api.Row{}), from(1, slices.Repeat(full().Rows, 4)...), from(1, make([]api.Row, 401)...),
	}
	for _, s := range l {
		if text, e := Print(s); text != "" || e != api.ErrArg {
			t.Errorf("Print(%s): %.300q, %d; want ErrArg", shown(s), text, e)
		}
		isPrinted(t, s)
	}
}

// none is a text of which there is no statement, and where it is wrong.
type none struct {
	text            string
	line, col, code int
}

// areNone holds that texts are wrong just there.
func areNone(t *testing.T, l []none) {
	t.Helper()
	for _, x := range l {
		s, r := Parse(x.text)
		if want := (api.Reject{Line: x.line, Col: x.col, Code: x.code}); !reflect.DeepEqual(s, api.Statement{}) || r != want {
			t.Errorf("Parse(%.300q): %s, %v; want %v", x.text, shown(s), r, want)
		}
		isParsed(t, x.text)
	}
}

// P14.2: the chapter's examples.
func TestExamples(t *testing.T) {
	isStatement(t, first+second+last, from(7, reserve(3, 4)))
	areNone(t, []none{
		{first + second + "end,2\n", 3, 2, api.ReCount},
		{first + second, 3, 1, api.ReHeader},
		{first + "3,ship,done,4\n" + last, 2, 2, api.ReField},
		{first + "03,reserve,done,4\n" + last, 2, 1, api.ReField},
		{first + "3,reserve,done,4,5\n" + last, 2, 5, api.ReWidth},
		{"stack,7\n" + second + last, 1, 1, api.ReHeader},
	})
}

// P14.2: what is no CSV is told as csv.Parse does, ahead of all that the rows say; its lines are the text's.
func TestParseCSV(t *testing.T) {
	areNone(t, []none{
		{"stock,7", 1, 8, api.ReWidth}, {first + second + "end,1", 3, 6, api.ReWidth}, {first + second + last + "x", 4, 2, api.ReWidth}, {first + second + last + "\"", 4, 2, api.ReQuote}, {first + second + last + "\r", 4, 1, api.ReQuote}, {"x", 1, 2, api.ReWidth},
		{"stock,7\r\n" + second + last, 1, 8, api.ReQuote}, {"st\"ock,7\n", 1, 3, api.ReQuote}, {"\"stock\"x,7\n", 1, 8, api.ReQuote}, {"\"stock\",7", 1, 10, api.ReWidth}, {"\"stock,7\n", 2, 1, api.ReQuote}, {first + "3,\"reserve,done,4\n" + last, 4, 1, api.ReQuote}, {first + "3,reserve,done,4\"\n" + last, 2, 17, api.ReQuote},
		// Rows that are wrong, and behind them what is no CSV.
		{"stack,7\n" + second + "end,1", 3, 6, api.ReWidth}, {first + "61,reserve,done,4\n" + "end,\"1\n", 4, 1, api.ReQuote}, {first + second + last + last + "\r\n", 5, 1, api.ReQuote}, {"\n\n\"", 3, 2, api.ReQuote},
		// A row counts once, however many lines of the text it has.
		{"stock,7\n3,\"reserve\n\n\",done,4\n" + last, 2, 2, api.ReField}, {"stock,7\n\"3\n\n\",reserve,done,4\n" + last + "\r", 6, 1, api.ReQuote}, {"\"stock\n\",7\n", 1, 1, api.ReHeader},
	})
	whole := first + second + last
	for _, x := range []struct {
		head, fill      string
		line, col, code int
	}{
		{whole, "\n", 4, 1, api.ReHeader}, {"", "\n", 1, 1, api.ReHeader}, {first, "\n", 2, 2, api.ReWidth}, {first, second, 3, 1, api.ReOrder}, {first + second, last, 4, 1, api.ReHeader}, {first, ",", 2, 5, api.ReWidth}, {first, "1", 2, 2, api.ReWidth},
	} {
		text := x.head + strings.Repeat(x.fill, (65535-len(x.head))/len(x.fill)) + "\n"
		areNone(t, []none{{text, x.line, x.col, x.code}, {text + text, 1, 1, api.ReLong}})
	}
	long := strings.Repeat("\n", 65536)
	areNone(t, []none{{whole + long[len(whole):], 4, 1, api.ReHeader}, {whole + long[len(whole)-1:], 1, 1, api.ReLong}, {whole + long, 1, 1, api.ReLong}, {long, 1, 1, api.ReHeader}, {long + "\n", 1, 1, api.ReLong}, {strings.Repeat("\"", 65537), 1, 1, api.ReLong}})
}

// P14.2: rows that are not there, that are too many, or begin with what they should not.
func TestParseRows(t *testing.T) {
	areNone(t, []none{
		{"", 1, 1, api.ReHeader}, {first, 2, 1, api.ReHeader}, {first + second + "4,reserve,done,4\n", 4, 1, api.ReHeader},
		{"\n", 1, 1, api.ReHeader}, {"\n" + first + second + last, 1, 1, api.ReHeader}, {last, 1, 1, api.ReHeader}, {"end,0\n", 1, 1, api.ReHeader}, {second + last, 1, 1, api.ReHeader}, {"manifest,7\n" + last, 1, 1, api.ReHeader},
		{"Stock,7\n", 1, 1, api.ReHeader}, {"STOCK,7\n", 1, 1, api.ReHeader}, {" stock,7\n", 1, 1, api.ReHeader}, {"stock ,7\n", 1, 1, api.ReHeader}, {"stocks,7\n", 1, 1, api.ReHeader}, {"stoc,7\n", 1, 1, api.ReHeader}, {",stock,7\n", 1, 1, api.ReHeader}, {"\xEF\xBB\xBFstock,7\n", 1, 1, api.ReHeader}, {"stock\x00,7\n", 1, 1, api.ReHeader}, {"\"stock\"\"\",7\n", 1, 1, api.ReHeader}, {"\"\",7\n", 1, 1, api.ReHeader}, {"\"stock,7\"\n", 1, 1, api.ReHeader},
		// What does not begin with stock is told so ahead of how many fields it has, and of its Seq.
		{"stack\n", 1, 1, api.ReHeader}, {"stack,7,7\n", 1, 1, api.ReHeader}, {"stack,0\n", 1, 1, api.ReHeader},
		// Only the first row is the one with stock; what begins with end in another way is a row of the statement.
		{first + first + last, 2, 3, api.ReWidth}, {first + "stock,reserve,done,4\n" + last, 2, 1, api.ReField}, {first + "End,0\n", 2, 3, api.ReWidth}, {first + "end ,0\n", 2, 3, api.ReWidth}, {first + " end,0\n", 2, 3, api.ReWidth}, {first + "END,reserve,done,4\n", 2, 1, api.ReField}, {first + "ends,reserve,done,4\n", 2, 1, api.ReField}, {first + "en,reserve,done,4\n", 2, 1, api.ReField},
		// Behind the end row, whatever it is.
		{first + second + last + last, 4, 1, api.ReHeader}, {first + second + last + first, 4, 1, api.ReHeader}, {first + second + last + "4,reserve,done,4\n", 4, 1, api.ReHeader}, {first + second + last + "\n", 4, 1, api.ReHeader}, {first + second + last + "\n\n", 4, 1, api.ReHeader}, {first + second + last + "\"\"\n", 4, 1, api.ReHeader}, {first + second + last + "x\n", 4, 1, api.ReHeader}, {first + second + last + ",,,,\n", 4, 1, api.ReHeader}, {first + "end,0\nend,0\n", 3, 1, api.ReHeader},
		// An end row that is wrong is told ahead of what is behind it.
		{first + second + "end,2\n" + last, 3, 2, api.ReCount}, {first + second + "end\n" + last, 3, 2, api.ReWidth}, {first + second + "end,x\n" + last, 3, 2, api.ReField},
	})
}

// P14.2: rows that have fewer or more fields than they should: one more than the lesser one of both.
func TestParseWidths(t *testing.T) {
	areNone(t, []none{
		{"stock\n", 1, 2, api.ReWidth}, {"stock,7,\n", 1, 3, api.ReWidth}, {"stock,7,x,y,z\n", 1, 3, api.ReWidth}, {"stock,0,x\n", 1, 3, api.ReWidth}, {"stock\nstock,7\n", 1, 2, api.ReWidth}, {"\"stock\"\n", 1, 2, api.ReWidth},
		{first + "\n" + last, 2, 2, api.ReWidth}, {first + "3\n" + last, 2, 2, api.ReWidth}, {first + "3,reserve\n" + last, 2, 3, api.ReWidth}, {first + "3,reserve,done\n" + last, 2, 4, api.ReWidth}, {first + "3,reserve,done,4,\n" + last, 2, 5, api.ReWidth}, {first + "3,reserve,done,4,5,6\n" + last, 2, 5, api.ReWidth}, {first + ",\n", 2, 3, api.ReWidth}, {first + ",,\n", 2, 4, api.ReWidth}, {first + ",,,,\n", 2, 5, api.ReWidth}, {first + "\"3,reserve,done,4\"\n" + last, 2, 2, api.ReWidth},
		{first + second + "end\n", 3, 2, api.ReWidth}, {first + second + "end,1,\n", 3, 3, api.ReWidth}, {first + second + "end,1,1,1\n", 3, 3, api.ReWidth}, {first + second + "end,reserve,done,4\n", 3, 3, api.ReWidth}, {first + second + "\"end,1\"\n", 3, 2, api.ReWidth}, {first + second + "end,x,x\n", 3, 3, api.ReWidth},
		// How many fields there are counts ahead of what they say.
		{first + "61,ship,x\n", 2, 4, api.ReWidth}, {first + second + "3,reserve,done,4,4\n", 3, 5, api.ReWidth}, {first + second + "2\n", 3, 2, api.ReWidth},
	})
	for many := 1; many < 300; many++ {
		col := min(many, 4) + 1
		if many != 4 {
			areNone(t, []none{{first + "3" + strings.Repeat(",", many-1) + "\n" + last, 2, col, api.ReWidth}})
		}
		if many != 2 {
			col = min(many, 2) + 1
			areNone(t, []none{{"stock" + strings.Repeat(",", many-1) + "\n", 1, col, api.ReWidth}, {first + "end" + strings.Repeat(",", many-1) + "\n", 2, col, api.ReWidth}})
		}
	}
}

// notNumbers are fields, as they stand in a file, that say no number as Put tells it.
func notNumbers() (l []string) {
	for _, field := range samples.NotNumbers() {
		l = append(l, strings.TrimSuffix(csv.Print([][]string{{field}}), "\n"))
	}
	return l
}

// P14.2: first rows whose Seq may not be, and those with one that may.
func TestParseSeq(t *testing.T) {
	for _, seq := range append(notNumbers(), "0", "-1", "-7", "1073741825", "4294967297", "4294967303", "9223372036854775807", "-9223372036854775808", "-4294967295") {
		for _, behind := range []string{second + last, "", "end\n", "\n"} {
			areNone(t, []none{{"stock," + seq + "\n" + behind, 1, 2, api.ReField}})
		}
	}
	for _, seq := range []int{1, 2, 9, 10, 1<<30 - 1, 1 << 30} {
		text := fmt.Sprintf("stock,%d\nend,0\n", seq)
		isStatement(t, text, from(seq))
		isParsed(t, text)
	}
}

// P14.2: rows whose fields say nothing that may be.
func TestParseFields(t *testing.T) {
	by := [4][]string{
		append(notNumbers(), "0", "61", "-1", "-3", "100", "256", "257", "4294967299", "9223372036854775807", "-9223372036854775808", "-4294967293", "stock", "reserve"),
		{"", " ", "charge", "ship", "refund", "void", "Reserve", "RESERVE", " reserve", "reserve ", "reserves", "reserv", "releas", "released", "reserve\x00", "\"reserve\n\"", "\"reserve,\"", "reserverelease", "0", "3", "done", "end", "\xFF"},
		{"", " ", "Done", "DONE", " done", "done ", "don", "dones", "refuse", "Refused", "refused ", "D", "R", "1", "2", "0", "none", "not known", "\"done\n\"", "done\x00", "reserve"},
		append(notNumbers(), "-1", "1000", "-4", "1023", "4294967296", "4294967300", "9223372036854775807", "-9223372036854775808", "-4294967292"),
	}
	good, ahead := [4]string{"3", "reserve", "done", "4"}, "2,release,done,4\n"
	for col, l := range by {
		for _, field := range l {
			fields := good
			// What is wrong behind it is not told.
			for _, behind := range [][]string{good[col+1:], {"", "", ""}, {"x", "x", "x"}} {
				copy(fields[col+1:], behind)
				fields[col] = field
				row := strings.Join(fields[:], ",") + "\n"
				areNone(t, []none{{first + row + last, 2, 1 + col, api.ReField}, {first + ahead + row, 3, 1 + col, api.ReField}, {first + row + "end\n", 2, 1 + col, api.ReField}})
			}
			if col > 0 {
				// What is wrong in a field counts ahead of a key that does not rise.
				fields = good
				fields[0], fields[col] = "2", field
				areNone(t, []none{{first + ahead + strings.Join(fields[:], ",") + "\n" + last, 3, 1 + col, api.ReField}})
			}
		}
	}
	for _, deed := range []string{"reserve", "release"} {
		for _, qty := range []string{"1", "4", "999", "1000", "-1", "00", "-0", "", "256", "4294967296"} {
			areNone(t, []none{{first + "3," + deed + ",refused," + qty + "\n" + last, 2, 4, api.ReField}, {first + "4," + deed + ",done,0\n3," + deed + ",refused," + qty + "\n" + last, 3, 4, api.ReField}})
		}
	}
}

// P14.2: rows that may be, of each order and Qty, and of each deed and code.
func TestParseGood(t *testing.T) {
	words := map[int]string{0: "reserve", 3: "release"}
	for deed, word := range words {
		for order := -1; order <= 130; order++ {
			for _, row := range []api.Row{of(order, deed, 1, 0), of(order, deed, 1, 999), of(order, deed, 2, 0)} {
				code := map[int]string{1: "done", 2: "refused"}[row.Code]
				text := fmt.Sprintf("stock,7\n%d,%s,%s,%d\nend,1\n", order, word, code, row.Qty)
				if order < 1 || order > 60 {
					areNone(t, []none{{text, 2, 1, api.ReField}})
					continue
				}
				isStatement(t, text, from(7, row))
				isParsed(t, text)
			}
		}
		for qty := -3; qty <= 1100; qty++ {
			done, refused := fmt.Sprintf("stock,7\n3,%s,done,%d\nend,1\n", word, qty), fmt.Sprintf("stock,7\n3,%s,refused,%d\nend,1\n", word, qty)
			if qty >= 0 && qty <= 999 {
				isStatement(t, done, from(7, of(3, deed, 1, qty)))
			} else {
				areNone(t, []none{{done, 2, 4, api.ReField}})
			}
			if qty == 0 {
				isStatement(t, refused, from(7, refusal(3, deed)))
			} else {
				areNone(t, []none{{refused, 2, 4, api.ReField}})
			}
		}
	}
}

// P14.2: of two rows each with each key: just one behind the other may be.
func TestParseOrder(t *testing.T) {
	words := map[int]string{0: "reserve", 3: "release"}
	for a := 1; a <= 12; a++ {
		for b := 1; b <= 12; b++ {
			for _, deeds := range [][2]int{{0, 0}, {0, 3}, {3, 0}, {3, 3}} {
				text := first + fmt.Sprintf("%d,%s,done,7\n%d,%s,refused,0\n", a, words[deeds[0]], b, words[deeds[1]]) + "end,2\n"
				if a > b || a == b && deeds[0] >= deeds[1] {
					areNone(t, []none{{text, 3, 1, api.ReOrder}})
					continue
				}
				isStatement(t, text, from(7, of(a, deeds[0], 1, 7), of(b, deeds[1], 2, 0)))
				isParsed(t, text)
			}
		}
	}
	// A key is held against the one ahead, and not against all of them alone.
	areNone(t, []none{
		{first + "1,reserve,done,1\n3,reserve,done,1\n2,reserve,done,1\nend,3\n", 4, 1, api.ReOrder}, {first + "1,reserve,done,1\n3,reserve,done,1\n1,release,done,1\nend,3\n", 4, 1, api.ReOrder}, {first + "2,reserve,done,1\n1,reserve,done,1\n3,reserve,done,1\nend,3\n", 3, 1, api.ReOrder}, {first + second + second + "x\n", 3, 1, api.ReOrder},
	})
}

// P14.2: end rows that say no number from 0 on, or do not count what was there.
func TestParseEnd(t *testing.T) {
	for _, many := range append(notNumbers(), "-1", "-9223372036854775808", "-4294967295") {
		areNone(t, []none{{first + second + "end," + many + "\n", 3, 2, api.ReField}, {first + "end," + many + "\n", 2, 2, api.ReField}})
	}
	full, _ := Print(full())
	head, _, _ := strings.Cut(full, "end,")
	for _, x := range []struct {
		ahead string
		many  int
	}{{first, 0}, {first + second, 1}, {first + second + "3,release,refused,0\n", 2}, {head, 120}} {
		line := strings.Count(x.ahead, "\n") + 1
		for _, many := range []int{0, 1, 2, 3, 10, 119, 120, 121, 122, 240, 256, 257, 258, 376, 400, 401, 1 << 32, 1<<32 + 1, 1<<32 + 2, math.MaxInt} {
			text := x.ahead + fmt.Sprintf("end,%d\n", many)
			if many != x.many {
				areNone(t, []none{{text, line, 2, api.ReCount}})
			} else if _, r := Parse(text); r != (api.Reject{}) {
				t.Errorf("Parse(%.300q): %v", text, r)
			}
		}
	}
}

// P14.2: behind MaxRows rows there is none more. No file comes there, for there are fewer keys; so a reader is asked that holds them.
func TestReadMany(t *testing.T) {
	for _, many := range []int{0, 398, 399, 400, 401} {
		for _, x := range []struct {
			row       string
			col, code int
		}{{"3,reserve,done,4", 0, api.ReNone}, {"61,reserve,done,4", 1, api.ReField}, {"3,ship,done,4", 2, api.ReField}, {"0,reserve,done,4", 1, api.ReField}} {
			if many >= 400 {
				x.col, x.code = 1, api.ReLong
			}
			f := reader{begun: true, s: from(7, make([]api.Row, many)...)}
			if col, code := f.read(strings.Split(x.row, ",")); col != x.col || code != x.code {
				t.Errorf("read(%q) behind %d rows: %d, %d; want %d, %d", x.row, many, col, code, x.col, x.code)
			}
		}
		f := reader{begun: true, s: from(7, make([]api.Row, many)...)}
		if col, code := f.read([]string{"3", "reserve", "done"}); col != 4 || code != api.ReWidth {
			t.Errorf("read of three fields behind %d rows: %d, %d; want 4, ReWidth", many, col, code)
		}
	}
}

// P14.3: what is quoted otherwise is parsed as the same: each choice of fields of the chapter's file, each one of others, and all.
func TestQuoted(t *testing.T) {
	for choice := range 1 << 8 {
		i := 0
		text := samples.Quoted([][]string{{"stock", "7"}, {"3", "reserve", "done", "4"}, {"end", "1"}}, func(field string) bool {
			i++
			return choice>>(i-1)&1 == 1
		})
		isStatement(t, text, from(7, reserve(3, 4)))
		isParsed(t, text)
	}
	for _, s := range append(some(), full()) {
		text, _ := Print(s)
		table, _ := csv.Parse(text)
		isStatement(t, samples.Quoted(table, func(string) bool { return true }), s)
		for only := range 2 + 4*len(s.Rows) + 2 {
			i := -1
			isStatement(t, samples.Quoted(table, func(string) bool { i++; return i == only }), s)
		}
	}
	// Where a field is wrong it is wrong in quotes, too, at the row and the field, not at the text's column.
	areNone(t, []none{
		{"\"stack\",\"7\"\n", 1, 1, api.ReHeader}, {"\"stock\",\"07\"\n", 1, 2, api.ReField}, {first + "\"3\",\"ship\",\"done\",\"4\"\n" + last, 2, 2, api.ReField}, {first + second + "\"end\",\"2\"\n", 3, 2, api.ReCount}, {first + second + "\"end\",\"1\"\n\"\"\n", 4, 1, api.ReHeader},
	})
}

// P14.2: of rows each with each fault in each field, the first one that is wrong.
func TestEachFault(t *testing.T) {
	ends := []string{"\n", "", ",\n", ",x,y\n", "\r\n", "\"\n"}
	samples.Choices{{"stock", "stack", "end", "3", "\"stock\"", ""}, {",7", ",1073741824", ",0", ",1073741825", ",07", ",\"7\"", ""}, ends}.Each(func(row string) {
		isParsed(t, row+second+last)
		isParsed(t, row)
	})
	samples.Choices{{"3", "2", "61", "03", "end", "stock", "\"3\""}, {",reserve", ",release", ",ship", ",", ""}, {",done", ",refused", ",x", ""}, {",4", ",0", ",999", ",1000", ",04", ""}, ends}.Each(func(row string) {
		isParsed(t, first+"3,reserve,done,0\n"+row+"end,2\n")
		isParsed(t, first+row+last)
		isParsed(t, first+row)
	})
	samples.Choices{{"end", "stock", "4", ""}, {",1", ",0", ",2", ",-1", ",01", ",\"1\"", ""}, ends, {"", "\n", "end,1\n", second}}.Each(func(row string) {
		isParsed(t, first+second+row)
		isParsed(t, first+row)
		isParsed(t, row)
	})
}

// P14.2, P14.3: files with each byte as each other one, left out, or put in; and cut off at each.
func TestEachByte(t *testing.T) {
	for _, s := range some() {
		text, _ := Print(s)
		for at := range len(text) {
			isParsed(t, text[:at])
			isParsed(t, text[at:])
			isParsed(t, text[:at]+text[at+1:])
			for b := range 256 {
				one := string([]byte{byte(b)})
				isParsed(t, text[:at]+one+text[at+1:])
				isParsed(t, text[:at]+one+text[at:])
				isParsed(t, text[:at]+one+"\n")
			}
		}
	}
}

// P14.2, P14.3: files with rows left out, twice, moved, and put behind one another.
func TestEachRow(t *testing.T) {
	for _, s := range some() {
		text, _ := Print(s)
		lines := strings.SplitAfter(text, "\n")
		lines = lines[:len(lines)-1]
		isJoined := func(l []string) { isParsed(t, strings.Join(l, "")) }
		for i := range lines {
			isJoined(slices.Delete(slices.Clone(lines), i, i+1))
			for j := range lines {
				isJoined(slices.Insert(slices.Clone(lines), j, lines[i]))
				isJoined(slices.Insert(slices.Delete(slices.Clone(lines), i, i+1), min(j, len(lines)-1), lines[i]))
			}
		}
		for _, other := range some() {
			behind, _ := Print(other)
			isParsed(t, text+behind)
			isParsed(t, text[:strings.LastIndex(text, "end")]+behind[strings.Index(behind, "\n")+1:])
		}
	}
}

// P14.2: all short texts of what means something.
func TestShortTexts(t *testing.T) {
	for _, s := range samples.Texts("1,\"\n3", 5) {
		isParsed(t, s)
		isParsed(t, "stock"+s)
		isParsed(t, first+s)
		isParsed(t, first+"end"+s)
		isParsed(t, first+second+s+last)
	}
}

// P14.2: what is told is the caller's own: neither changes the other one.
func TestOwn(t *testing.T) {
	text, _ := Print(full())
	a, _ := Parse(text)
	b, _ := Parse(text)
	clear(a.Rows)
	if !rows.Same(b, full()) {
		t.Error("Parse: a list changed with another one")
	}
}

// P14.1 to P14.3: statements that may be, of any rows, are printed and parsed, also quoted anyhow; no two are printed alike.
func TestAnyStatement(t *testing.T) {
	r := rand.New(rand.NewSource(14))
	by := map[string]api.Statement{}
	for range 3000 {
		s := from(1 + r.Intn(1<<(1+r.Intn(30))))
		most := 1 + r.Intn(60)
		for order := 1; order <= 60; order++ {
			for _, deed := range []int{0, 3} {
				switch r.Intn(2 * most) {
				case 0:
					s.Rows = append(s.Rows, refusal(order, deed))
				case 1:
					s.Rows = append(s.Rows, of(order, deed, 1, r.Intn(1+r.Intn(1000))))
				}
			}
		}
		isPrinted(t, s)
		text, e := Print(s)
		if e != api.OK {
			t.Fatalf("Print(%v): %d", s, e)
		}
		isParsed(t, text)
		table, _ := csv.Parse(text)
		isStatement(t, samples.Quoted(table, func(string) bool { return r.Intn(2) == 0 }), s)
		if other, there := by[text]; there && !rows.Same(other, s) {
			t.Fatalf("%v and %v are printed as %q", s, other, text)
		}
		by[text] = s
	}
}

// P14.1 to P14.3, of any texts and numbers.
func FuzzAny(f *testing.F) {
	f.Add(first+second+last, 1, 7, 3, 0, 1, 4, int64(0))
	f.Add(first+second+"end,2\n", 0, 1<<30, 60, 3, 2, 0, int64(300))
	f.Add("\"stock\",7\n1,reserve,refused,0\n3,release,done,20\nend,\"2\"\n", -1, 0, 61, 6, 3, 1000, int64(1))
	f.Fuzz(func(t *testing.T, text string, party, seq, order, deed, code, qty int, amount int64) {
		isParsed(t, text)
		got, _ := Parse(text)
		for _, row := range []api.Row{
			{Key: api.Key{Order: order, Deed: deed}, Code: code, Amount: amount, Qty: qty},
			of(order%64, deed%8, code%4, qty%1010), of(order%64, deed%8, code%4, 0),
		} {
			for _, l := range [][]api.Row{{row}, append(slices.Clone(got.Rows), row), slices.Insert(slices.Clone(got.Rows), 0, row)} {
				isPrinted(t, api.Statement{Party: party, Seq: seq, Rows: l})
				isPrinted(t, from(seq%(1<<31), l...))
				isPrinted(t, from(got.Seq, l...))
			}
		}
	})
}
