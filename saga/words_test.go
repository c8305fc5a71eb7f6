package saga

import (
	"fmt"
	"math"
	"strings"
	"testing"

	"consignor/api"
)

// The tests write a saga as a letter for each deed, in order: what is below, and ! behind them, if it is cancelled.
const letters = "-adrl" // None, Asked, DoneIt, Refused, Left

// sample is an order that may be.
var sample = api.Order{Id: 3, Ref: "R-1", Sku: "nut", Qty: 4, Amount: 300}

// of is the sample's saga of a text.
func of(text string) Saga { return withOrder(text, sample) }

func withOrder(text string, o api.Order) (s Saga) {
	s.Order = o
	for deed := range 6 {
		s.Deeds[deed] = strings.IndexByte(letters, text[deed])
		if s.Deeds[deed] < 0 {
			panic(text)
		}
	}
	s.Cancel = text[6:] == "!"
	return s
}

// text is the one of a saga; a deed that is none of the ways in which one is, is told by its number.
func text(s Saga) string {
	told := ""
	for _, how := range s.Deeds {
		if how < 0 || how >= len(letters) {
			told += fmt.Sprintf("(%d)", how)
			continue
		}
		told += letters[how : how+1]
	}
	if s.Cancel {
		told += "!"
	}
	return told
}

// way is a saga that may be, and what is told of it; nothing, or -1, where there is none.
type way struct {
	text                string
	state, waits        int
	net                 bool // whether it is the order's Amount
	done, refused, stop string
}

// ways are all sagas that may be, written out.
func ways() []way {
	return []way{
		{"a-----", 0, 0, false, "da----", "r-----", "l--a--!"},
		{"da----", 0, 1, false, "dda---", "dr-a--", "dl--a-!"},
		{"dda---", 0, 2, true, "ddd---", "ddr-a-", "ddl--a!"},
		{"ddd---", 2, -1, true, "", "", ""},
		{"r-----", 3, -1, false, "", "", ""},
		{"dr-a--", 1, 3, false, "dr-d--", "", ""},
		{"dr-d--", 3, -1, false, "", "", ""},
		{"ddr-a-", 1, 4, true, "ddrad-", "", ""},
		{"ddrad-", 1, 3, false, "ddrdd-", "", ""},
		{"ddrdd-", 3, -1, false, "", "", ""},
		{"l--a--!", 1, 3, false, "l--d--!", "", ""},
		{"l--d--!", 4, -1, false, "", "", ""},
		{"dl--a-!", 1, 4, false, "dl-ad-!", "", ""},
		{"dl-ad-!", 1, 3, false, "dl-dd-!", "", ""},
		{"dl-dd-!", 4, -1, false, "", "", ""},
		{"ddl--a!", 1, 5, true, "ddl-ad!", "", ""},
		{"ddl-ad!", 1, 4, true, "ddladd!", "", ""},
		{"ddladd!", 1, 3, false, "ddlddd!", "", ""},
		{"ddlddd!", 4, -1, false, "", "", ""},
	}
}

// wayOf is the one of a text; false: it is none.
func wayOf(text string) (w way, ok bool) {
	for _, w := range ways() {
		if w.text == text {
			return w, true
		}
	}
	return way{}, false
}

// back tells whether a saga goes back, by the chapter's words.
func back(s Saga) bool {
	return s.Cancel || s.Deeds[0] == 3 || s.Deeds[1] == 3 || s.Deeds[2] == 3
}

// first is the first deed that is so; -1: none is.
func first(s Saga, how int) int {
	for deed, x := range s.Deeds {
		if x == how {
			return deed
		}
	}
	return -1
}

// on is a saga that goes on, by the chapter's words.
func on(s Saga) Saga {
	if !back(s) {
		if deed := first(s, 0); deed >= 0 && deed < 3 {
			s.Deeds[deed] = 1
		}
		return s
	}
	for _, pair := range [][2]int{{2, 5}, {1, 4}, {0, 3}} {
		if how := s.Deeds[pair[0]]; (how == 2 || how == 4) && s.Deeds[pair[1]] == 0 {
			s.Deeds[pair[1]] = 1
			return s
		}
	}
	return s
}

func stateByWords(s Saga) int {
	waits := first(s, 1) >= 0
	if !back(s) {
		if waits {
			return 0
		}
		return 2
	}
	if waits {
		return 1
	}
	if s.Cancel {
		return 4
	}
	return 3
}

func replyByWords(s Saga, deed, code int) (Saga, bool) {
	if first(s, 1) < 0 || first(s, 1) != deed {
		return Saga{}, false
	}
	how := 0
	if code == 1 {
		how = 2
	}
	if code == 2 && (deed == 0 || deed == 1 || deed == 2) {
		how = 3
	}
	if how == 0 {
		return Saga{}, false
	}
	s.Deeds[deed] = how
	return on(s), true
}

func stopByWords(s Saga) (Saga, api.Errno) {
	if stateByWords(s) != 0 {
		return Saga{}, 92
	}
	s.Deeds[first(s, 1)] = 4
	s.Cancel = true
	return on(s), 0
}

func netByWords(s Saga) int64 {
	if s.Deeds[1] != 2 || s.Deeds[4] == 2 {
		return 0
	}
	return s.Order.Amount
}

// agree holds all that is told of a saga, but whether it may be, against the chapter's words.
func agree(t testing.TB, s Saga) {
	t.Helper()
	was := s
	if n, want := State(s), stateByWords(s); n != want {
		t.Fatalf("State(%s): %d; want %d", text(s), n, want)
	}
	isWaits(t, s, first(s, 1))
	if n, want := Net(s), netByWords(s); n != want {
		t.Fatalf("Net(%s) of %d: %d; want %d", text(s), s.Order.Amount, n, want)
	}
	next, e := Stop(s)
	if want, f := stopByWords(s); next != want || e != f {
		t.Fatalf("Stop(%s): %s %v, %d; want %s, %d", text(s), text(next), next.Order, e, text(want), f)
	}
	for _, deed := range deeds() {
		for _, code := range codes() {
			next, ok := Reply(s, deed, code)
			if want, may := replyByWords(s, deed, code); next != want || ok != may {
				t.Fatalf("Reply(%s, %d, %d): %s %v, %v; want %s, %v", text(s), deed, code, text(next), next.Order, ok, text(want), may)
			}
		}
	}
	if s != was {
		t.Fatalf("%s: it is %s now", text(was), text(s))
	}
}

// isWaits holds what a saga waits for; -1: for nothing.
func isWaits(t testing.TB, s Saga, want int) {
	t.Helper()
	deed, ok := Waits(s)
	if ok != (want >= 0) || deed != max(want, 0) {
		t.Fatalf("Waits(%s): %d, %v; want %d", text(s), deed, ok, want)
	}
}

// isValid holds whether a saga may be.
func isValid(t testing.TB, s Saga, want bool) {
	t.Helper()
	if ok := Valid(s); ok != want {
		t.Fatalf("Valid(%s) of %.200v: %v; want %v", text(s), s.Order, ok, want)
	}
}

// deeds are all, and such as are none, also in lower bits alone.
func deeds() []int {
	return []int{math.MinInt, -6, -1, 0, 1, 2, 3, 4, 5, 6, 7, 256, 1 << 32, math.MaxInt}
}

// codes are all, and such as are none, also in lower bits alone.
func codes() []int {
	return []int{math.MinInt, -1, 0, 1, 2, 3, 4, 257, 258, 1<<32 + 1, 1<<32 + 2, math.MaxInt}
}

// ordersThatMayBe are some, at both ends of what may be.
func ordersThatMayBe() []api.Order {
	return []api.Order{
		sample,
		{Id: 1, Ref: "a", Sku: "b", Qty: 1, Amount: 1},
		{Id: 60, Ref: "ABCDEFGHIJKLMNO_", Sku: "abcdefg-", Qty: 999, Amount: 1 << 40},
		{Id: 7, Ref: "0", Sku: "0", Qty: 998, Amount: 1<<40 - 1},
	}
}

// ordersThatMayNot are such as differ from the sample by one field.
func ordersThatMayNot() (l []api.Order) {
	with := func(change func(o *api.Order)) {
		o := sample
		change(&o)
		l = append(l, o)
	}
	for _, n := range []int{math.MinInt, -1, 0, 1 << 41, 1<<40 + 1, math.MaxInt} {
		with(func(o *api.Order) { o.Id = n })
		with(func(o *api.Order) { o.Qty = n })
		with(func(o *api.Order) { o.Amount = int64(n) })
	}
	with(func(o *api.Order) { o.Id = 61 })
	with(func(o *api.Order) { o.Qty = 1000 })
	for _, name := range []string{"", "a b", "é", "\xFF", strings.Repeat("a", 17), strings.Repeat("a", 70000)} {
		with(func(o *api.Order) { o.Ref = name })
		with(func(o *api.Order) { o.Sku = name })
	}
	return append(l, api.Order{})
}
