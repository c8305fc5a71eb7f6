package manifest

import (
	"cmp"
	"fmt"
	"regexp"
	"strconv"

	"consignor/api"
	"consignor/csv"
)

// The chapter's words as patterns: a number as Put tells it, and a cell of a Qty from 0 to 999.
var (
	aNumber = regexp.MustCompile(`\A(0|-?[1-9][0-9]*)\z`)
	aCell   = regexp.MustCompile(`\A(-|refused|done:(0|[1-9][0-9]{0,2}))\z`)
)

// printedByWords is a statement's file by the chapter's words; false: it has none.
func printedByWords(s api.Statement) (string, bool) {
	if s.Party != 2 || s.Seq <= 0 || s.Seq > 1073741824 || len(s.Rows) > 400 {
		return "", false
	}
	var cells [61][2]string
	last, total := 0, 0
	for _, r := range s.Rows {
		col, isDeed := map[int]int{2: 0, 5: 1}[r.Key.Deed]
		cell := map[int]string{1: fmt.Sprintf("done:%d", r.Qty), 2: "refused"}[r.Code]
		if r.Key.Order <= 0 || r.Key.Order > 60 || !isDeed || cell == "" || r.Amount != 0 || r.Qty < 0 || r.Qty > 999 || r.Code == 2 && r.Qty != 0 {
			return "", false
		}
		if key := 10*r.Key.Order + r.Key.Deed; key > last {
			last = key
		} else {
			return "", false
		}
		cells[r.Key.Order][col] = cell
		total += r.Qty
	}
	text, many := fmt.Sprintf("manifest,%d\n", s.Seq), 0
	for order, x := range cells {
		if x[0]+x[1] != "" {
			text += fmt.Sprintf("%d,%s,%s\n", order, cmp.Or(x[0], "-"), cmp.Or(x[1], "-"))
			many++
		}
	}
	return text + fmt.Sprintf("end,%d,%d\n", many, total), true
}

// parsedByWords is the statement of a text by the chapter's words, or where it is wrong.
func parsedByWords(text string) (api.Statement, api.Reject) {
	table, r := csv.Parse(text)
	if r != (api.Reject{}) {
		return api.Statement{}, r
	}
	s, ended := api.Statement{Party: 2}, false
	for i, fields := range table {
		col, code := 1, api.ReHeader
		if !ended && (i > 0 || fields[0] == "manifest") {
			col, code = fieldsByWords(&s, i == 0, fields)
		}
		if code != api.ReNone {
			return api.Statement{}, api.Reject{Line: i + 1, Col: col, Code: code}
		}
		ended = i > 0 && fields[0] == "end"
	}
	if !ended {
		return api.Statement{}, api.Reject{Line: len(table) + 1, Col: 1, Code: api.ReHeader}
	}
	return s, api.Reject{}
}

// fieldsByWords takes in a row that begins as it should, or tells where it is wrong.
func fieldsByWords(s *api.Statement, first bool, fields []string) (col, code int) {
	wide := 3
	if first {
		wide = 2
	}
	switch {
	case len(fields) < wide:
		return len(fields) + 1, api.ReWidth
	case len(fields) > wide:
		return wide + 1, api.ReWidth
	case first:
		if s.Seq = int(valueByWords(fields[1])); s.Seq < 1 || s.Seq > 1073741824 {
			return 2, api.ReField
		}
		return 0, api.ReNone
	case fields[0] == "end":
		return endByWords(s, fields)
	}
	return orderByWords(s, fields)
}

// orderByWords takes in an order's row of three fields, or tells where it is wrong.
func orderByWords(s *api.Statement, fields []string) (int, int) {
	order, ahead := valueByWords(fields[0]), 0
	if many := len(s.Rows); many > 0 {
		ahead = s.Rows[many-1].Key.Order
	}
	switch {
	case order < 1 || order > 60:
		return 1, api.ReField
	case !aCell.MatchString(fields[1]):
		return 2, api.ReField
	case !aCell.MatchString(fields[2]):
		return 3, api.ReField
	case fields[1]+fields[2] == "--":
		return 2, api.ReField
	case int(order) <= ahead:
		return 1, api.ReOrder
	}
	for i, deed := range []int{2, 5} {
		r := api.Row{Key: api.Key{Order: int(order), Deed: deed}, Code: 1}
		switch cell := fields[1+i]; cell {
		case "-":
			continue
		case "refused":
			r.Code = 2
		default:
			r.Qty = int(valueByWords(cell[5:]))
		}
		s.Rows = append(s.Rows, r)
	}
	return 0, api.ReNone
}

// endByWords holds an end row of three fields against what was there.
func endByWords(s *api.Statement, fields []string) (int, int) {
	orders, total := map[int]bool{}, 0
	for _, r := range s.Rows {
		orders[r.Key.Order] = true
		total += r.Qty
	}
	for i, x := range []struct{ is, code int }{{len(orders), api.ReCount}, {total, api.ReTotal}} {
		switch n := valueByWords(fields[1+i]); {
		case n < 0:
			return 2 + i, api.ReField
		case n != int64(x.is):
			return 2 + i, x.code
		}
	}
	return 0, api.ReNone
}

// valueByWords is the number that a field says; below 0: it says none, or one that is.
func valueByWords(field string) int64 {
	n, e := strconv.ParseInt(field, 10, 64)
	if e != nil || !aNumber.MatchString(field) {
		return -1
	}
	return n
}
