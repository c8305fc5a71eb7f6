package settle

import (
	"fmt"
	"regexp"
	"strconv"
	"strings"

	"consignor/api"
)

// The chapter's words as patterns: a byte that no line may have, and a number, padded.
var (
	anOdd   = regexp.MustCompile(`[^\x20-\x7E]`)
	aNumber = regexp.MustCompile(`\A[0-9]+\z`)
)

// printedByWords is a statement's file by the chapter's words; false: it has none.
func printedByWords(s api.Statement) (string, bool) {
	if s.Party != 0 || s.Seq <= 0 || s.Seq > 1073741824 || len(s.Rows) > 400 {
		return "", false
	}
	text, last, sum := fmt.Sprintf("HPAYMENT %010d\n", s.Seq), 0, int64(0)
	for _, r := range s.Rows {
		word := map[int]string{1: "charge", 4: "refund"}[r.Key.Deed]
		letter := map[int]string{1: "D", 2: "R"}[r.Code]
		if r.Key.Order <= 0 || r.Key.Order > 60 || word == "" || letter == "" || r.Qty != 0 || r.Amount < 0 || r.Amount > 1099511627776 || r.Code == 2 && r.Amount != 0 {
			return "", false
		}
		if key := 10*r.Key.Order + r.Key.Deed; key > last {
			last = key
		} else {
			return "", false
		}
		text += fmt.Sprintf("D%04d%-8s%s%014d\n", r.Key.Order, word, letter, r.Amount)
		sum += r.Amount
	}
	return text + fmt.Sprintf("T%06d%016d\n", len(s.Rows), sum), true
}

// parsedByWords is the statement of a text by the chapter's words, or where it is wrong.
func parsedByWords(text string) (api.Statement, api.Reject) {
	if len(text) > 65536 {
		return api.Statement{}, api.Reject{Line: 1, Col: 1, Code: api.ReLong}
	}
	s, ended := api.Statement{}, false
	lines := strings.SplitAfter(text, "\n")
	if lines[len(lines)-1] == "" {
		lines = lines[:len(lines)-1]
	}
	for i, line := range lines {
		col, code := 1, api.ReHeader
		switch may := strings.Contains("DT", line[:1]); {
		case ended || i == 0 && line[0] != 'H' || i > 0 && !may:
		default:
			col, code = lineByWords(&s, line)
		}
		if code != api.ReNone {
			return api.Statement{}, api.Reject{Line: i + 1, Col: col, Code: code}
		}
		ended = line[0] == 'T'
	}
	if !ended {
		return api.Statement{}, api.Reject{Line: len(lines) + 1, Col: 1, Code: api.ReHeader}
	}
	return s, api.Reject{}
}

// lineByWords takes in a line that begins as it should, or tells where it is wrong.
func lineByWords(s *api.Statement, line string) (col, code int) {
	inner := strings.TrimSuffix(line, "\n")
	wide := map[byte]int{'H': 19, 'D': 28, 'T': 23}[line[0]]
	odd := anOdd.FindStringIndex(inner)
	switch {
	case len(inner) < wide:
		return len(inner) + 1, api.ReWidth
	case len(inner) > wide:
		return wide + 1, api.ReWidth
	case odd != nil:
		return odd[0] + 1, api.ReWidth
	case inner == line:
		return wide + 1, api.ReWidth
	case line[0] == 'D':
		return rowByWords(s, inner)
	case line[0] == 'H':
		s.Seq = int(valueByWords(inner[9:]))
		switch {
		case inner[1:9] != "PAYMENT ":
			return 2, api.ReHeader
		case s.Seq < 1 || s.Seq > 1073741824:
			return 10, api.ReField
		}
		return 0, api.ReNone
	}
	sum := int64(0)
	for _, r := range s.Rows {
		sum += r.Amount
	}
	many, total := valueByWords(inner[1:7]), valueByWords(inner[7:])
	switch {
	case many < 0:
		return 2, api.ReField
	case many != int64(len(s.Rows)):
		return 2, api.ReCount
	case total < 0:
		return 8, api.ReField
	case total != sum:
		return 8, api.ReTotal
	}
	return 0, api.ReNone
}

// rowByWords takes in a row's line that is as wide as it should be, or tells where it is wrong.
func rowByWords(s *api.Statement, line string) (col, code int) {
	order, amount := valueByWords(line[1:5]), valueByWords(line[14:])
	deed := map[string]int{"charge  ": 1, "refund  ": 4}[line[5:13]]
	done := map[byte]int{'D': 1, 'R': 2}[line[13]]
	switch {
	case len(s.Rows) == 400:
		return 1, api.ReLong
	case order < 1 || order > 60:
		return 2, api.ReField
	case deed == 0:
		return 6, api.ReField
	case done == 0:
		return 14, api.ReField
	case amount < 0 || amount > 1099511627776 || done == 2 && amount != 0:
		return 15, api.ReField
	}
	if many := len(s.Rows); many > 0 {
		if ahead := s.Rows[many-1].Key; 10*int(order)+deed <= 10*ahead.Order+ahead.Deed {
			return 2, api.ReOrder
		}
	}
	s.Rows = append(s.Rows, api.Row{Key: api.Key{Order: int(order), Deed: deed}, Code: done, Amount: amount})
	return 0, api.ReNone
}

// valueByWords is the number that a whole field says; below 0: it says none.
func valueByWords(field string) int64 {
	if !aNumber.MatchString(field) {
		return -1
	}
	n, _ := strconv.ParseInt(field, 10, 64)
	return n
}
