package stock

import (
	"fmt"
	"regexp"
	"strconv"

	"consignor/api"
	"consignor/csv"
)

// The chapter's words as a pattern: a number as Put tells it.
var aNumber = regexp.MustCompile(`\A(0|-?[1-9][0-9]*)\z`)

// printedByWords is a statement's file by the chapter's words; false: it has none.
func printedByWords(s api.Statement) (string, bool) {
	if s.Party != 1 || s.Seq <= 0 || s.Seq > 1073741824 || len(s.Rows) > 400 {
		return "", false
	}
	text, last := fmt.Sprintf("stock,%d\n", s.Seq), 0
	for _, r := range s.Rows {
		word := map[int]string{0: "reserve", 3: "release"}[r.Key.Deed]
		code := map[int]string{1: "done", 2: "refused"}[r.Code]
		if r.Key.Order <= 0 || r.Key.Order > 60 || word == "" || code == "" || r.Amount != 0 || r.Qty < 0 || r.Qty > 999 || r.Code == 2 && r.Qty != 0 {
			return "", false
		}
		if key := 10*r.Key.Order + r.Key.Deed; key > last {
			last = key
		} else {
			return "", false
		}
		text += fmt.Sprintf("%d,%s,%s,%d\n", r.Key.Order, word, code, r.Qty)
	}
	return text + fmt.Sprintf("end,%d\n", len(s.Rows)), true
}

// parsedByWords is the statement of a text by the chapter's words, or where it is wrong.
func parsedByWords(text string) (api.Statement, api.Reject) {
	table, r := csv.Parse(text)
	if r != (api.Reject{}) {
		return api.Statement{}, r
	}
	s, ended := api.Statement{Party: 1}, false
	for i, fields := range table {
		col, code := 1, api.ReHeader
		if !ended && (i > 0 || fields[0] == "stock") {
			col, code = fieldsByWords(&s, i == 0, fields)
		}
		if code != api.ReNone {
			return api.Statement{}, api.Reject{Line: i + 1, Col: col, Code: code}
		}
		ended = i > 0 && fields[0] == "end"
	}
	if !ended {
		return api.Statement{}, api.Reject{Line: len(table) + 1, Col: 1, Code: api.ReHeader}
	}
	return s, api.Reject{}
}

// fieldsByWords takes in a row that begins as it should, or tells where it is wrong.
func fieldsByWords(s *api.Statement, first bool, fields []string) (col, code int) {
	wide := 4
	if first || fields[0] == "end" {
		wide = 2
	}
	switch {
	case len(fields) < wide:
		return len(fields) + 1, api.ReWidth
	case len(fields) > wide:
		return wide + 1, api.ReWidth
	case first:
		if s.Seq = int(valueByWords(fields[1])); s.Seq < 1 || s.Seq > 1073741824 {
			return 2, api.ReField
		}
		return 0, api.ReNone
	case fields[0] != "end":
		return rowByWords(s, fields)
	}
	switch many := valueByWords(fields[1]); {
	case many < 0:
		return 2, api.ReField
	case many != int64(len(s.Rows)):
		return 2, api.ReCount
	}
	return 0, api.ReNone
}

// rowByWords takes in a statement's row of four fields, or tells where it is wrong.
func rowByWords(s *api.Statement, fields []string) (int, int) {
	order, qty := valueByWords(fields[0]), valueByWords(fields[3])
	deed, isDeed := map[string]int{"reserve": 0, "release": 3}[fields[1]]
	code, isCode := map[string]int{"done": 1, "refused": 2}[fields[2]]
	switch {
	case len(s.Rows) == 400:
		return 1, api.ReLong
	case order < 1 || order > 60:
		return 1, api.ReField
	case !isDeed:
		return 2, api.ReField
	case !isCode:
		return 3, api.ReField
	case qty < 0 || qty > 999 || code == 2 && qty != 0:
		return 4, api.ReField
	}
	if many := len(s.Rows); many > 0 {
		if ahead := s.Rows[many-1].Key; 10*int(order)+deed <= 10*ahead.Order+ahead.Deed {
			return 1, api.ReOrder
		}
	}
	s.Rows = append(s.Rows, api.Row{Key: api.Key{Order: int(order), Deed: deed}, Code: code, Qty: int(qty)})
	return 0, api.ReNone
}

// valueByWords is the number that a field says; below 0: it says none, or one that is.
func valueByWords(field string) int64 {
	n, e := strconv.ParseInt(field, 10, 64)
	if e != nil || !aNumber.MatchString(field) {
		return -1
	}
	return n
}
