package settle

import (
	"fmt"
	"math"
	"math/rand"
	"reflect"
	"slices"
	"strings"
	"testing"

	"consignor/api"
	"consignor/rows"
	"consignor/samples"
)

// The chapter's file, line by line.
const (
	first  = "HPAYMENT 0000000005\n"
	second = "D0003charge  D00000000000300\n"
	last   = "T0000010000000000000300\n"
)

// of is a row of the payment's.
func of(order, deed, code int, amount int64) api.Row {
	return api.Row{Key: api.Key{Order: order, Deed: deed}, Code: code, Amount: amount}
}

// charge and refund are rows of what was done, refusal is one of what was not.
func charge(order int, amount int64) api.Row { return of(order, 1, 1, amount) }

func refund(order int, amount int64) api.Row { return of(order, 4, 1, amount) }

func refusal(order, deed int) api.Row { return of(order, deed, 2, 0) }

// from is a statement of the payment's.
func from(seq int, l ...api.Row) api.Statement {
	return api.Statement{Party: api.PaPay, Seq: seq, Rows: l}
}

// full is the greatest statement: each key of the payment's, the refunds of every other order refused.
func full() api.Statement {
	s := from(1 << 30)
	for order := 1; order <= 60; order++ {
		s.Rows = append(s.Rows, charge(order, 1<<40))
		if order%2 == 0 {
			s.Rows = append(s.Rows, refusal(order, 4))
		} else {
			s.Rows = append(s.Rows, refund(order, 1<<40))
		}
	}
	return s
}

// some are statements whose files are of many forms.
func some() []api.Statement {
	return []api.Statement{
		from(5, charge(3, 300)), from(1), from(1<<30, refusal(60, 1)),
		from(10, charge(3, 900), refund(3, 900), charge(4, 0)),
		from(123456789, refusal(1, 1), charge(2, 0), charge(3, 1<<40), refund(3, 1<<40), charge(10, 127), refusal(10, 4), refund(60, 99999999999)),
	}
}

// isPrinted holds what is told of any statement against the words, and what is parsed of its file against it.
func isPrinted(t *testing.T, s api.Statement) {
	t.Helper()
	was := api.Statement{Party: s.Party, Seq: s.Seq, Rows: slices.Clone(s.Rows)}
	text, e := Print(s)
	want, ok := printedByWords(s)
	if text != want || (e == api.OK) != ok || (e != api.OK && e != api.ErrArg) {
		t.Errorf("Print(%s): %.300q, %d; want %.300q, %v", shown(s), text, e, want, ok)
	}
	if !rows.Same(s, was) {
		t.Errorf("Print(%s): it was handed in as %s", shown(s), shown(was))
	}
	if !ok {
		return
	}
	if again, r := Parse(text); !rows.Same(again, s) || r != (api.Reject{}) {
		t.Errorf("Parse(%.300q), that was printed of %s: %s, %v", text, shown(s), shown(again), r)
	}
}

// isParsed holds what is told of any text against the words, and what is printed of it against the text.
func isParsed(t *testing.T, text string) {
	t.Helper()
	s, r := Parse(text)
	want, wrong := parsedByWords(text)
	if !rows.Same(s, want) || r != wrong {
		t.Errorf("Parse(%.300q): %s, %v; want %s, %v", text, shown(s), r, shown(want), wrong)
	}
	if r != (api.Reject{}) {
		if !reflect.DeepEqual(s, api.Statement{}) || r.Line < 1 || r.Col < 1 || r.Code == api.ReNone {
			t.Errorf("Parse(%.300q): %s beside %v", text, shown(s), r)
		}
		return
	}
	if again, e := Print(s); again != text || e != api.OK || !rows.Valid(s) {
		t.Errorf("Print(%s), that was parsed of %.300q: %.300q, %d", shown(s), text, again, e)
	}
}

// shown is a text of anything, cut off where it grows too long to be read.
func shown(x any) string { return fmt.Sprintf("%.300s", fmt.Sprint(x)) }

// P13.1: the files of some statements, written out.
func TestPrint(t *testing.T) {
	for _, x := range []struct {
		s    api.Statement
		want string
	}{
		{from(5, charge(3, 300)), first + second + last},
		{from(1), "HPAYMENT 0000000001\nT0000000000000000000000\n"},
		{from(1 << 30), "HPAYMENT 1073741824\nT0000000000000000000000\n"},
		{from(10, charge(60, 1<<40)), "HPAYMENT 0000000010\nD0060charge  D01099511627776\nT0000010001099511627776\n"},
		{from(7, refusal(1, 1), charge(2, 0), charge(3, 900), refund(3, 20), refusal(10, 4)), "HPAYMENT 0000000007\nD0001charge  R00000000000000\nD0002charge  D00000000000000\nD0003charge  D00000000000900\nD0003refund  D00000000000020\nD0010refund  R00000000000000\nT0000050000000000000920\n"},
	} {
		if text, e := Print(x.s); text != x.want || e != api.OK {
			t.Errorf("Print(%v): %q, %d; want %q", x.s, text, e, x.want)
		}
		isPrinted(t, x.s)
		isParsed(t, x.want)
	}
}

// P13.1: all that may be, of all rows: 60 charges and 30 refunds of 2^40 are 98956046499840.
func TestPrintFull(t *testing.T) {
	text, e := Print(full())
	if e != api.OK || strings.Count(text, "\n") != 122 || !strings.HasPrefix(text, "HPAYMENT 1073741824\nD0001charge  D01099511627776\n") || !strings.HasSuffix(text, "\nT0001200098956046499840\n") {
		t.Errorf("Print of all rows: %q, %d", text, e)
	}
	isPrinted(t, full())
	isParsed(t, text)
	for i := range full().Rows {
		less, twice, moved := full(), full(), full()
		less.Rows = slices.Delete(less.Rows, i, i+1)
		twice.Rows = slices.Insert(twice.Rows, i, twice.Rows[i])
		moved.Rows[i], moved.Rows[(i+1)%120] = moved.Rows[(i+1)%120], moved.Rows[i]
		for _, s := range []api.Statement{less, twice, moved} {
			isPrinted(t, s)
		}
	}
}

// P13.1: of a statement that may not be, or is another party's, no file.
func TestPrintNone(t *testing.T) {
	reserve := api.Statement{Party: api.PaStore, Seq: 1, Rows: []api.Row{{Key: api.Key{Order: 1}, Code: 1, Qty: 5}}}
	ship := api.Statement{Party: api.PaCarry, Seq: 1, Rows: []api.Row{{Key: api.Key{Order: 1, Deed: 2}, Code: 1, Qty: 5}}}
	counted := from(1, charge(1, 5))
	counted.Rows[0].Qty = 1
	l := []api.Statement{
		{}, {Seq: -1}, {Party: 1, Seq: 1}, {Party: 2, Seq: 1}, {Party: 3, Seq: 1}, {Party: -1, Seq: 1}, {Party: 256, Seq: 1}, {Party: 1 << 32, Seq: 1}, {Party: math.MinInt, Seq: 1},
		reserve, ship, counted, {Party: 1, Seq: 5, Rows: []api.Row{charge(3, 300)}}, {Party: 0, Seq: 1, Rows: reserve.Rows}, {Party: 0, Seq: 1, Rows: ship.Rows},
		from(0, charge(3, 300)), from(-1, charge(3, 300)), from(1<<30+1, charge(3, 300)), from(math.MaxInt), from(math.MinInt), from(1<<32 + 1),
		from(1, charge(0, 5)), from(1, charge(61, 5)), from(1, charge(-1, 5)), from(1, charge(1, -1)), from(1, charge(1, 1<<40+1)), from(1, charge(1, math.MaxInt64)), from(1, charge(1, math.MinInt64)),
		from(1, of(1, 1, 0, 5)), from(1, of(1, 1, 3, 5)), from(1, of(1, 1, 2, 5)), from(1, of(1, 0, 1, 0)), from(1, of(1, 2, 1, 0)), from(1, of(1, 6, 1, 0)), from(1, of(1, -1, 1, 0)), from(1, api.Row{}),
		from(1, charge(1, 5), charge(1, 5)), from(1, refund(1, 5), charge(1, 5)), from(1, charge(2, 5), charge(1, 5)), from(1, charge(1, 5), api.Row{}), from(1, slices.Repeat(full().Rows, 4)...), from(1, make([]api.Row, 401)...),
	}
	for _, s := range l {
		if text, e := Print(s); text != "" || e != api.ErrArg {
			t.Errorf("Print(%s): %.300q, %d; want ErrArg", shown(s), text, e)
		}
		isPrinted(t, s)
	}
}

// none is a text of which there is no statement, and where it is wrong.
type none struct {
	text            string
	line, col, code int
}

// areNone holds that texts are wrong just there.
func areNone(t *testing.T, l []none) {
	t.Helper()
	for _, x := range l {
		s, r := Parse(x.text)
		if want := (api.Reject{Line: x.line, Col: x.col, Code: x.code}); !reflect.DeepEqual(s, api.Statement{}) || r != want {
			t.Errorf("Parse(%.300q): %s, %v; want %v", x.text, shown(s), r, want)
		}
		isParsed(t, x.text)
	}
}

// P13.2: the chapter's examples.
func TestExamples(t *testing.T) {
	if s, r := Parse(first + second + last); !rows.Same(s, from(5, charge(3, 300))) || r != (api.Reject{}) {
		t.Errorf("Parse: %v, %v", s, r)
	}
	areNone(t, []none{
		{first + second + "T0000020000000000000300\n", 3, 2, api.ReCount},
		{first + second, 3, 1, api.ReHeader},
		{first + second + last + second, 4, 1, api.ReHeader},
		{first + "D0003ship    D00000000000300\n" + last, 2, 6, api.ReField},
		{"HPAYMENT 0000000005", 1, 20, api.ReWidth},
	})
}

// P13.2: lines that are not there, that are too many, or begin with what they should not.
func TestParseLines(t *testing.T) {
	areNone(t, []none{
		{"", 1, 1, api.ReHeader}, {first, 2, 1, api.ReHeader}, {first + second + "D0004charge  D00000000000300\n", 4, 1, api.ReHeader},
		{"\n", 1, 1, api.ReHeader}, {"\n" + first + second + last, 1, 1, api.ReHeader}, {first + "\n" + second + last, 2, 1, api.ReHeader}, {first + second + "\n" + last, 3, 1, api.ReHeader},
		{second + last, 1, 1, api.ReHeader}, {last, 1, 1, api.ReHeader}, {first + first + second + last, 2, 1, api.ReHeader}, {first + second + first + last, 3, 1, api.ReHeader}, {first + "H\n", 2, 1, api.ReHeader}, {"D", 1, 1, api.ReHeader}, {"T", 1, 1, api.ReHeader},
		{"hPAYMENT 0000000005\n", 1, 1, api.ReHeader}, {first + "d0003charge  D00000000000300\n", 2, 1, api.ReHeader}, {first + second + "t0000010000000000000300\n", 3, 1, api.ReHeader}, {first + " " + second + last, 2, 1, api.ReHeader}, {" " + first, 1, 1, api.ReHeader}, {"\xEF\xBB\xBF" + first, 1, 1, api.ReHeader}, {"\x00", 1, 1, api.ReHeader}, {"\r\n", 1, 1, api.ReHeader}, {"X", 1, 1, api.ReHeader}, {first + "\xFF", 2, 1, api.ReHeader},
		// Behind the trailer: a whole line, an unfinished one, one that has a byte 10 alone.
		{first + second + last + last, 4, 1, api.ReHeader}, {first + second + last + first, 4, 1, api.ReHeader}, {first + second + last + "\n", 4, 1, api.ReHeader}, {first + second + last + "\n\n", 4, 1, api.ReHeader}, {first + second + last + " ", 4, 1, api.ReHeader}, {first + second + last + "D", 4, 1, api.ReHeader}, {first + second + last + "T", 4, 1, api.ReHeader}, {first + second + last + "\x00", 4, 1, api.ReHeader}, {first + second + last + "\x1A", 4, 1, api.ReHeader}, {first + "T0000000000000000000000\nD", 3, 1, api.ReHeader},
	})
}

// P13.2: lines that are too short, too long, unfinished, or have bytes that may not be.
func TestParseWidths(t *testing.T) {
	areNone(t, []none{
		{"H\n", 1, 2, api.ReWidth}, {"H", 1, 2, api.ReWidth}, {"HPAYMENT 000000005\n" + second + last, 1, 19, api.ReWidth}, {"HPAYMENT 00000000005\n" + second + last, 1, 20, api.ReWidth}, {"HPAYMENT 0000000005 \n", 1, 20, api.ReWidth}, {"HPAYMENT 0000000005\r\n", 1, 20, api.ReWidth}, {"HPAYMENT 0000000005" + second + last, 1, 20, api.ReWidth},
		{first + "D\n", 2, 2, api.ReWidth}, {first + "D", 2, 2, api.ReWidth}, {first + "D0003charge  D0000000000300\n" + last, 2, 28, api.ReWidth}, {first + "D0003charge  D000000000000300\n" + last, 2, 29, api.ReWidth}, {first + "D0003charge  D00000000000300\r\n" + last, 2, 29, api.ReWidth},
		{first + second + "T\n", 3, 2, api.ReWidth}, {first + second + "T", 3, 2, api.ReWidth}, {first + second + "T000001000000000000300\n", 3, 23, api.ReWidth}, {first + second + "T00000100000000000000300\n", 3, 24, api.ReWidth}, {first + second + "T0000010000000000000300 ", 3, 24, api.ReWidth},
		// Unfinished, though wide enough: the byte 10 is missed behind it.
		{first + "D0003charge  D00000000000300", 2, 29, api.ReWidth}, {first + second + "T0000010000000000000300", 3, 24, api.ReWidth}, {first + "D0099charge  D00000000000300", 2, 29, api.ReWidth}, {first + second + "T0000020000000000000300", 3, 24, api.ReWidth}, {"HPAYMENX 0000000005", 1, 20, api.ReWidth},
		// An odd byte counts ahead of the missing byte 10, the width ahead of both.
		{"HPAYMENT 000000000\x00", 1, 19, api.ReWidth}, {"HPAYMENT\x00000000000\x00", 1, 9, api.ReWidth}, {"H\x00", 1, 3, api.ReWidth}, {"HPAYMENT\t0000000005\n", 1, 9, api.ReWidth}, {"HPAYMENT 000000005\x7F\n", 1, 19, api.ReWidth}, {"HP\xC3\x84YMENT000000005\n", 1, 19, api.ReWidth}, {"HP\xC3\x84YMENT0000000005\n", 1, 3, api.ReWidth}, {first + "D0003charge  D0000000000030\xB0\n" + last, 2, 28, api.ReWidth}, {first + "D0003charge\x00 D00000000000300\n" + last, 2, 12, api.ReWidth}, {first + second + "T0000010000000000000300\x00", 3, 24, api.ReWidth}, {first + second + "T000001000000000000030\x1F\n", 3, 23, api.ReWidth},
	})
}

// P13.2: headers whose fields say nothing that may be.
func TestParseHeader(t *testing.T) {
	areNone(t, []none{
		{"HPAYMENTS0000000005\n", 1, 2, api.ReHeader}, {"HPAYMEN  0000000005\n", 1, 2, api.ReHeader}, {"H PAYMENT0000000005\n", 1, 2, api.ReHeader}, {"Hpayment 0000000005\n", 1, 2, api.ReHeader}, {"H        0000000005\n", 1, 2, api.ReHeader}, {"HPAYMENT00000000005\n", 1, 2, api.ReHeader}, {"HPAYMENX 9999999999\n", 1, 2, api.ReHeader},
		{"HPAYMENT 0000000000\n", 1, 10, api.ReField}, {"HPAYMENT 1073741825\n", 1, 10, api.ReField}, {"HPAYMENT 4294967301\n", 1, 10, api.ReField}, {"HPAYMENT 9999999999\n", 1, 10, api.ReField}, {"HPAYMENT          5\n", 1, 10, api.ReField}, {"HPAYMENT 5         \n", 1, 10, api.ReField}, {"HPAYMENT 000000005 \n", 1, 10, api.ReField}, {"HPAYMENT           \n", 1, 10, api.ReField}, {"HPAYMENT -000000005\n", 1, 10, api.ReField}, {"HPAYMENT +000000005\n", 1, 10, api.ReField}, {"HPAYMENT 00000000x5\n", 1, 10, api.ReField}, {"HPAYMENT 0x00000005\n", 1, 10, api.ReField}, {"HPAYMENT 000000_005\n", 1, 10, api.ReField}, {"HPAYMENT 00000005.0\n", 1, 10, api.ReField},
	})
	for _, seq := range []string{"0000000001", "0000000010", "1073741823", "1073741824"} {
		text := "HPAYMENT " + seq + "\nT0000000000000000000000\n"
		if s, r := Parse(text); r != (api.Reject{}) || fmt.Sprintf("%010d", s.Seq) != seq {
			t.Errorf("Parse(%q): %v, %v", text, s, r)
		}
		isParsed(t, text)
	}
}

// P13.2: rows whose fields say nothing that may be.
func TestParseRow(t *testing.T) {
	for _, x := range []struct {
		row       string
		col, code int
	}{
		{"D0000charge  D00000000000300", 2, api.ReField}, {"D0061charge  D00000000000300", 2, api.ReField}, {"D9999charge  D00000000000300", 2, api.ReField}, {"D   3charge  D00000000000300", 2, api.ReField}, {"D3   charge  D00000000000300", 2, api.ReField}, {"D003 charge  D00000000000300", 2, api.ReField}, {"D    charge  D00000000000300", 2, api.ReField}, {"D-003charge  D00000000000300", 2, api.ReField}, {"D+003charge  D00000000000300", 2, api.ReField}, {"D0x03charge  D00000000000300", 2, api.ReField}, {"D3-chcharge  D00000000000300", 2, api.ReField},
		{"D0003reserve D00000000000300", 6, api.ReField}, {"D0003release D00000000000300", 6, api.ReField}, {"D0003ship    D00000000000300", 6, api.ReField}, {"D0003void    D00000000000300", 6, api.ReField}, {"D0003        D00000000000300", 6, api.ReField}, {"D0003 charge D00000000000300", 6, api.ReField}, {"D0003Charge  D00000000000300", 6, api.ReField}, {"D0003CHARGE  D00000000000300", 6, api.ReField}, {"D0003charges D00000000000300", 6, api.ReField}, {"D0003chargesxD00000000000300", 6, api.ReField}, {"D0003char    D00000000000300", 6, api.ReField}, {"D00031       D00000000000300", 6, api.ReField},
		{"D0003charge   00000000000300", 14, api.ReField}, {"D0003charge  X00000000000300", 14, api.ReField}, {"D0003charge  d00000000000300", 14, api.ReField}, {"D0003charge  r00000000000000", 14, api.ReField}, {"D0003charge  100000000000300", 14, api.ReField}, {"D0003charge  C00000000000000", 14, api.ReField},
		{"D0003charge  D01099511627777", 15, api.ReField}, {"D0003charge  D99999999999999", 15, api.ReField}, {"D0003charge  D           300", 15, api.ReField}, {"D0003charge  D300           ", 15, api.ReField}, {"D0003charge  D0000000000300 ", 15, api.ReField}, {"D0003charge  D              ", 15, api.ReField}, {"D0003charge  D-0000000000300", 15, api.ReField}, {"D0003charge  D-0000000000000", 15, api.ReField}, {"D0003charge  D+0000000000300", 15, api.ReField}, {"D0003charge  D000000000003.0", 15, api.ReField},
		{"D0003charge  R00000000000300", 15, api.ReField}, {"D0003charge  R00000000000001", 15, api.ReField}, {"D0003refund  R01099511627776", 15, api.ReField}, {"D0003charge  R              ", 15, api.ReField}, {"D0003charge  R0             ", 15, api.ReField},
		{"D0002charge  D00000000000300", 2, api.ReOrder}, {"D0002refund  D00000000000300", 2, api.ReOrder}, {"D0001refund  R00000000000000", 2, api.ReOrder},
		// Two that are wrong: the first of the fields, and a key that does not rise behind them all.
		{"D0000ship    D00000000000300", 2, api.ReField}, {"D0061charge  X00000000000300", 2, api.ReField}, {"D0003ship    X00000000000300", 6, api.ReField}, {"D0003charge  X           300", 14, api.ReField}, {"D0002ship    D00000000000300", 6, api.ReField}, {"D0002charge  X00000000000300", 14, api.ReField}, {"D0002charge  D01099511627777", 15, api.ReField}, {"D0002charge  R00000000000300", 15, api.ReField}, {"D0000charge  D01099511627777", 2, api.ReField},
	} {
		for _, behind := range []string{last, "", "T\n", second + last, "\n"} {
			areNone(t, []none{{first + "D0002refund  D00000000000300\n" + x.row + "\n" + behind, 3, x.col, x.code}})
			if x.code == api.ReField {
				areNone(t, []none{{first + x.row + "\n" + behind, 2, x.col, x.code}})
			}
		}
	}
	for _, x := range []struct {
		row  string
		want api.Row
	}{
		{"D0001charge  D00000000000001", charge(1, 1)}, {"D0060charge  D01099511627776", charge(60, 1<<40)}, {"D0060refund  D01099511627775", refund(60, 1<<40-1)}, {"D0010refund  D00000000000000", refund(10, 0)}, {"D0001charge  R00000000000000", refusal(1, 1)}, {"D0059refund  R00000000000000", refusal(59, 4)},
	} {
		text := first + x.row + "\nT000001" + fmt.Sprintf("%016d", x.want.Amount) + "\n"
		if s, r := Parse(text); !rows.Same(s, from(5, x.want)) || r != (api.Reject{}) {
			t.Errorf("Parse(%q): %v, %v; want %v", text, s, r, x.want)
		}
		isParsed(t, text)
	}
}

// P13.2: of two rows each with each key: just one behind the other may be.
func TestParseOrder(t *testing.T) {
	words := map[int]string{1: "charge  ", 4: "refund  "}
	for a := 1; a <= 12; a++ {
		for b := 1; b <= 12; b++ {
			for _, deeds := range [][2]int{{1, 1}, {1, 4}, {4, 1}, {4, 4}} {
				row := func(order, deed int) string { return fmt.Sprintf("D%04d%sD00000000000007\n", order, words[deed]) }
				text := first + row(a, deeds[0]) + row(b, deeds[1]) + "T0000020000000000000014\n"
				_, r := Parse(text)
				if want := a > b || a == b && deeds[0] >= deeds[1]; want != (r == api.Reject{Line: 3, Col: 2, Code: api.ReOrder}) || !want && r != (api.Reject{}) {
					t.Errorf("Parse(%q): %v", text, r)
				}
				isParsed(t, text)
			}
		}
	}
}

// P13.2: trailers that say nothing that may be, or do not count what was there.
func TestParseTrailer(t *testing.T) {
	areNone(t, []none{
		{first + second + "T     10000000000000300\n", 3, 2, api.ReField}, {first + second + "T1     0000000000000300\n", 3, 2, api.ReField}, {first + second + "T      0000000000000300\n", 3, 2, api.ReField}, {first + second + "T00001 0000000000000300\n", 3, 2, api.ReField}, {first + second + "T-000010000000000000300\n", 3, 2, api.ReField}, {first + second + "T0000x10000000000000300\n", 3, 2, api.ReField}, {first + second + "T00001x               x\n", 3, 2, api.ReField},
		{first + second + "T0000000000000000000300\n", 3, 2, api.ReCount}, {first + second + "T0000020000000000000300\n", 3, 2, api.ReCount}, {first + second + "T9999990000000000000300\n", 3, 2, api.ReCount}, {first + second + "T0000020000000000000000\n", 3, 2, api.ReCount}, {first + second + "T000002             300\n", 3, 2, api.ReCount}, {first + "T0000010000000000000300\n", 2, 2, api.ReCount}, {first + second + "T0002570000000000000300\n", 3, 2, api.ReCount},
		{first + second + "T000001             300\n", 3, 8, api.ReField}, {first + second + "T000001300             \n", 3, 8, api.ReField}, {first + second + "T000001                \n", 3, 8, api.ReField}, {first + second + "T000001000000000000300 \n", 3, 8, api.ReField}, {first + second + "T000001-000000000000300\n", 3, 8, api.ReField}, {first + second + "T000001+000000000000300\n", 3, 8, api.ReField}, {first + second + "T00000100000000000003.0\n", 3, 8, api.ReField},
		{first + second + "T0000010000000000000299\n", 3, 8, api.ReTotal}, {first + second + "T0000010000000000000301\n", 3, 8, api.ReTotal}, {first + second + "T0000010000000000000000\n", 3, 8, api.ReTotal}, {first + second + "T0000019999999999999999\n", 3, 8, api.ReTotal}, {first + "T0000000000000000000001\n", 2, 8, api.ReTotal}, {first + second + "T0000010000004294967596\n", 3, 8, api.ReTotal},
	})
	// What was paid back counts as what was charged, and not less.
	isParsed(t, first+second+"D0003refund  D00000000000300\nT0000020000000000000600\n")
	areNone(t, []none{{first + second + "D0003refund  D00000000000300\nT0000020000000000000000\n", 4, 8, api.ReTotal}})
}

// P13.2: up to so many bytes a text is gone through.
func TestParseLong(t *testing.T) {
	whole := first + second + last
	for _, x := range []struct {
		head, fill      string
		line, col, code int
	}{
		{"H", "x", 1, 20, api.ReWidth}, {whole, "\n", 4, 1, api.ReHeader}, {whole, "x", 4, 1, api.ReHeader}, {"", "\n", 1, 1, api.ReHeader}, {"", "x", 1, 1, api.ReHeader}, {first, "D", 2, 29, api.ReWidth}, {first + second, "T", 3, 24, api.ReWidth}, {first + second, "D0003charge  D00000000000300\n", 3, 2, api.ReOrder},
	} {
		text := (x.head + strings.Repeat(x.fill, 70000))[:65536]
		areNone(t, []none{{text, x.line, x.col, x.code}, {text[:65535], x.line, x.col, x.code}, {text + "x", 1, 1, api.ReLong}, {text + "\n", 1, 1, api.ReLong}, {text + text, 1, 1, api.ReLong}})
	}
}

// P13.2: behind MaxRows rows there is none more. No file comes there, for there are fewer keys; so a reader is asked that holds them.
func TestReadMany(t *testing.T) {
	for _, x := range []struct {
		many, col, code int
	}{{398, 0, api.ReNone}, {399, 0, api.ReNone}, {400, 1, api.ReLong}, {401, 1, api.ReLong}} {
		for _, line := range []string{second, "D0000charge  D00000000000300\n"} {
			f := reader{next: "DT", s: from(5, make([]api.Row, x.many)...)}
			col, code := f.read(line)
			if line != second && x.code == api.ReNone {
				x.col, x.code = 2, api.ReField
			}
			if col != x.col || code != x.code {
				t.Errorf("read(%q) behind %d rows: %d, %d; want %d, %d", line, x.many, col, code, x.col, x.code)
			}
		}
	}
}

// P13.2: of lines each with each fault in each field, the first one that is wrong.
func TestEachFault(t *testing.T) {
	ends := []string{"\n", "", "x\n", "\r\n", " "}
	samples.Choices{{"H", "D", "T", "h", ""}, {"PAYMENT ", "PAYMENTS", "payment ", "PAYMENT\x00", "PAYMENT"}, {"0000000005", "1073741824", "0000000000", "1073741825", "5         ", "x000000005"}, ends}.Each(func(line string) {
		isParsed(t, line+second+last)
		isParsed(t, line)
	})
	samples.Choices{{"D", "H", "T", "X"}, {"0003", "0002", "0061", "3   "}, {"charge  ", "refund  ", "ship    ", " charge ", "charge"}, {"D", "R", "X", "\x7F"}, {"00000000000300", "00000000000000", "01099511627777", "300           "}, ends}.Each(func(line string) {
		isParsed(t, first+"D0003charge  D00000000000000\n"+line+"T0000020000000000000300\n")
		isParsed(t, first+line+last)
		isParsed(t, first+line)
	})
	samples.Choices{{"T", "D", "H", ""}, {"000001", "000000", "1     ", "00001"}, {"0000000000000300", "0000000000000000", "300             ", "000000000000030\x80"}, ends, {"", "\n", "T", second}}.Each(func(line string) {
		isParsed(t, first+second+line)
		isParsed(t, first+line)
		isParsed(t, line)
	})
}

// P13.2, P13.3: files with each byte as each other one, left out, or put in; and cut off at each.
func TestEachByte(t *testing.T) {
	for _, s := range some() {
		text, _ := Print(s)
		for at := range len(text) {
			isParsed(t, text[:at])
			isParsed(t, text[at:])
			isParsed(t, text[:at]+text[at+1:])
			for b := range 256 {
				one := string([]byte{byte(b)})
				isParsed(t, text[:at]+one+text[at+1:])
				isParsed(t, text[:at]+one+text[at:])
				isParsed(t, text[:at]+one)
			}
		}
		for b := range 256 {
			one := string([]byte{byte(b)})
			areNone(t, []none{{text + one, strings.Count(text, "\n") + 1, 1, api.ReHeader}})
		}
	}
}

// P13.2, P13.3: files with lines left out, twice, moved, and put behind one another.
func TestEachLine(t *testing.T) {
	for _, s := range some() {
		text, _ := Print(s)
		lines := strings.SplitAfter(strings.TrimSuffix(text, "\n"), "\n")
		lines[len(lines)-1] += "\n"
		joined := func(l []string) string { return strings.Join(l, "") }
		for i := range lines {
			isParsed(t, joined(slices.Delete(slices.Clone(lines), i, i+1)))
			for j := range lines {
				isParsed(t, joined(slices.Insert(slices.Clone(lines), j, lines[i])))
				isParsed(t, joined(slices.Insert(slices.Delete(slices.Clone(lines), i, i+1), min(j, len(lines)-1), lines[i])))
			}
		}
		for _, other := range some() {
			behind, _ := Print(other)
			isParsed(t, text+behind)
			isParsed(t, text[:strings.LastIndex(text, "T")]+behind[strings.Index(behind, "\n")+1:])
		}
	}
}

// P13.2: what is told is the caller's own: neither changes the other one.
func TestOwn(t *testing.T) {
	text, _ := Print(full())
	a, _ := Parse(text)
	b, _ := Parse(text)
	clear(a.Rows)
	if !rows.Same(b, full()) {
		t.Error("Parse: a list changed with another one")
	}
}

// P13.1 to P13.3: statements that may be, of any rows, are printed and parsed; no two are printed alike.
func TestAnyStatement(t *testing.T) {
	r := rand.New(rand.NewSource(13))
	by := map[string]api.Statement{}
	for range 3000 {
		s := from(1 + r.Intn(1<<(1+r.Intn(30))))
		most := 1 + r.Intn(60)
		for order := 1; order <= 60; order++ {
			for _, deed := range []int{1, 4} {
				switch r.Intn(2 * most) {
				case 0:
					s.Rows = append(s.Rows, refusal(order, deed))
				case 1:
					s.Rows = append(s.Rows, of(order, deed, 1, r.Int63n(1<<(1+r.Intn(40)))+int64(r.Intn(2))))
				}
			}
		}
		isPrinted(t, s)
		text, e := Print(s)
		if e != api.OK {
			t.Fatalf("Print(%v): %d", s, e)
		}
		isParsed(t, text)
		if other, there := by[text]; there && !rows.Same(other, s) {
			t.Fatalf("%v and %v are printed as %q", s, other, text)
		}
		by[text] = s
	}
}

// P13.1 to P13.3, of any texts and numbers.
func FuzzAny(f *testing.F) {
	f.Add(first+second+last, 0, 5, 3, 1, 1, int64(300), 0)
	f.Add(first+second+"T0000020000000000000300\n", 1, 1<<30, 60, 4, 2, int64(0), 999)
	f.Add("HPAYMENT 0000000007\nD0001charge  R00000000000000\nD0003refund  D00000000000020\nT0000020000000000000020\n", -1, 0, 61, 6, 3, int64(1)<<40+1, 1)
	f.Fuzz(func(t *testing.T, text string, party, seq, order, deed, code int, amount int64, qty int) {
		isParsed(t, text)
		got, _ := Parse(text)
		for _, row := range []api.Row{
			{Key: api.Key{Order: order, Deed: deed}, Code: code, Amount: amount, Qty: qty},
			of(order%64, deed%8, code%4, amount%(1<<41)), of(order%64, deed%8, code%4, 0),
		} {
			for _, l := range [][]api.Row{{row}, append(slices.Clone(got.Rows), row), slices.Insert(slices.Clone(got.Rows), 0, row)} {
				isPrinted(t, api.Statement{Party: party, Seq: seq, Rows: l})
				isPrinted(t, from(seq%(1<<31), l...))
				isPrinted(t, from(got.Seq, l...))
			}
		}
	})
}
