package party

import (
	"fmt"
	"math"
	"slices"
	"testing"

	"consignor/api"
	"consignor/orders"
	"consignor/rows"
)

// calls are what a party is asked; the tests hold a Party against byWords by them.
type calls interface {
	Ask(m api.Msg) (api.Msg, bool)
	Rows() []api.Row
	Statement() api.Statement
	Left(sku string) int
}

// line is what was written, and of which goods.
type line struct {
	row api.Row
	sku string
}

// byWords is a party by the chapter's words: a list of what was written, as it was written; all else is told anew out of it each time.
type byWords struct {
	kind, stock int
	limit       int64
	list        []line
	said        int
}

func newByWords(kind, stock int, limit int64) *byWords {
	if stock < 0 {
		stock = 0
	}
	if stock > 1000000000 {
		stock = 1000000000
	}
	return &byWords{kind: kind, stock: stock, limit: limit}
}

// find is the line of a key; a zero one, if there is none.
func (w *byWords) find(order, deed int) (l line) {
	for _, x := range w.list {
		if x.row.Key.Order == order && x.row.Key.Deed == deed {
			l = x
		}
	}
	return l
}

func (w *byWords) write(order, deed, code int, amount int64, qty int, sku string) {
	w.list = append(w.list, line{api.Row{Key: api.Key{Order: order, Deed: deed}, Code: code, Amount: amount, Qty: qty}, sku})
}

func (w *byWords) Ask(m api.Msg) (api.Msg, bool) {
	if !orders.May(m) || m.To != w.kind {
		return api.Msg{}, false
	}
	order, deed := m.Key.Order, m.Key.Deed
	if w.find(order, deed).row.Code == 0 {
		switch {
		case deed > 2:
			if w.find(order, deed-3).row.Code == 0 {
				w.write(order, deed-3, 2, 0, 0, "")
			}
			undone := w.find(order, deed-3)
			w.write(order, deed, 1, undone.row.Amount, undone.row.Qty, undone.sku)
		case deed == 0 && w.Left(m.Sku) >= m.Qty, deed == 1 && m.Amount <= w.limit, deed == 2 && int64(m.Qty) <= w.limit:
			w.write(order, deed, 1, m.Amount, m.Qty, m.Sku)
		default:
			w.write(order, deed, 2, 0, 0, "")
		}
	}
	return api.Msg{To: 3, Key: m.Key, Code: w.find(order, deed).row.Code}, true
}

func (w *byWords) Rows() (l []api.Row) {
	for order := 1; order <= 60; order++ {
		for deed := range 6 {
			if r := w.find(order, deed).row; r.Code != 0 {
				l = append(l, r)
			}
		}
	}
	return l
}

func (w *byWords) Statement() api.Statement {
	if w.said == 1073741824 {
		return api.Statement{}
	}
	w.said++
	return api.Statement{Party: w.kind, Seq: w.said, Rows: w.Rows()}
}

func (w *byWords) Left(sku string) int {
	if w.kind != 1 || orders.Check(api.Order{Id: 1, Ref: "r", Sku: sku, Qty: 1, Amount: 1}) != api.OK {
		return 0
	}
	left := w.stock
	for _, x := range w.list {
		if x.sku == sku && x.row.Key.Deed == 0 {
			left -= x.row.Qty
		}
		if x.sku == sku && x.row.Key.Deed == 3 {
			left += x.row.Qty
		}
	}
	return left
}

// someGoods are names that the tests ask for, such as one could be taken for another one, and such as are none.
func someGoods() []string {
	return []string{"nut", "bolt", "nu", "nuts", "Nut", "n", "-", "_", "0", "abcdefgh", "abcdefgi", "abcdefg", "", "nut\x00", "nut ", " nut", "abcdefghi", "néd", "\xFF"}
}

// state is all that a party tells of its book and its stocks.
func state(p calls) string {
	told := fmt.Sprint(p.Rows())
	for _, sku := range someGoods() {
		told += fmt.Sprintf(" %q %d", sku, p.Left(sku))
	}
	return told
}

// whole is a party's state, and the statement that would be its next one; it is left as it was.
func whole(p *Party) string { return state(p) + fmt.Sprint(p.Copy().Statement()) }

// of is a message that asks a deed's party for it, of an order of so many goods, or of such an amount.
func of(order, deed int, sku string, n int64) api.Msg {
	o := api.Order{Id: order, Ref: "r", Sku: sku, Qty: 1, Amount: 1}
	if deed == api.DeCharge || deed == api.DeRefund {
		o.Amount = n
	} else {
		o.Qty = int(n)
	}
	return orders.Msg(o, deed)
}

func reserve(order int, sku string, qty int64) api.Msg { return of(order, api.DeReserve, sku, qty) }

func release(order int, sku string, qty int64) api.Msg { return of(order, api.DeRelease, sku, qty) }

func charge(order int, amount int64) api.Msg { return of(order, api.DeCharge, "s", amount) }

func refund(order int, amount int64) api.Msg { return of(order, api.DeRefund, "s", amount) }

func ship(order int, qty int64) api.Msg { return of(order, api.DeShip, "nut", qty) }

func void(order int, qty int64) api.Msg { return of(order, api.DeVoid, "nut", qty) }

// done and refused are rows of a deed.
func done(order, deed int, amount int64, qty int) api.Row {
	return api.Row{Key: api.Key{Order: order, Deed: deed}, Code: api.CoDone, Amount: amount, Qty: qty}
}

func refused(order, deed int) api.Row {
	return api.Row{Key: api.Key{Order: order, Deed: deed}, Code: api.CoRefused}
}

// answers asks a party for what it is to take, and holds the whole answer.
func answers(t testing.TB, p *Party, m api.Msg, code int) {
	t.Helper()
	want := api.Msg{To: api.PaDesk, Key: m.Key, Code: code}
	if a, ok := p.Ask(m); a != want || !ok {
		t.Errorf("Ask(%v): %v, %v; want %v", m, a, ok, want)
	}
}

// unchanged asks, as answers does, and holds that nothing changes.
func unchanged(t testing.TB, p *Party, m api.Msg, code int) {
	t.Helper()
	ahead := whole(p)
	answers(t, p, m, code)
	if behind := whole(p); behind != ahead {
		t.Errorf("Ask(%v) leads from %.300s to %.300s", m, ahead, behind)
	}
}

// declines asks a party for what it is not to take, and holds that nothing changes.
func declines(t testing.TB, p *Party, m api.Msg) {
	t.Helper()
	ahead := whole(p)
	if a, ok := p.Ask(m); a != (api.Msg{}) || ok {
		t.Errorf("Ask(%.200v): %v, %v; want false", m, a, ok)
	}
	if behind := whole(p); behind != ahead {
		t.Errorf("Ask(%.200v) leads from %.300s to %.300s", m, ahead, behind)
	}
}

// stand holds a party's book.
func stand(t testing.TB, p *Party, want ...api.Row) {
	t.Helper()
	if l := p.Rows(); !slices.Equal(l, want) {
		t.Errorf("Rows: %v; want %v", l, want)
	}
	if !rows.Check(p.Rows(), p.kind) {
		t.Errorf("Rows: %v, that may not be those of %d", p.Rows(), p.kind)
	}
}

// has holds what the warehouse has left.
func has(t testing.TB, p *Party, sku string, want int) {
	t.Helper()
	if n := p.Left(sku); n != want {
		t.Errorf("Left(%.50q): %d; want %d", sku, n, want)
	}
}

// says holds a statement.
func says(t testing.TB, p *Party, seq int, want ...api.Row) {
	t.Helper()
	s := p.Statement()
	if !rows.Same(s, api.Statement{Party: p.kind, Seq: seq, Rows: want}) || !rows.Valid(s) {
		t.Errorf("Statement: %v; want Seq %d, and %v", s, seq, want)
	}
}

// saysNothing holds that there is no statement.
func saysNothing(t testing.TB, p *Party) {
	t.Helper()
	if s := p.Statement(); s.Party != 0 || s.Seq != 0 || len(s.Rows) != 0 {
		t.Errorf("Statement: %v; want none", s)
	}
}

// agree asks a party, and one by the chapter's words, for a list, and holds one against the other, and against what follows, behind each.
func agree(t testing.TB, kind, stock int, limit int64, l []api.Msg) *Party {
	t.Helper()
	p, w := New(kind, stock, limit), newByWords(kind, stock, limit)
	for i, m := range l {
		ahead := p.Rows()
		answer, ok := p.Ask(m)
		if want, may := w.Ask(m); answer != want || ok != may {
			t.Fatalf("%d, %d, %d: %v: %v, %v; want %v, %v", kind, stock, limit, l[:i+1], answer, ok, want, may)
		}
		if told, want := state(p), state(w); told != want {
			t.Fatalf("%d, %d, %d: %v: %s; want %s", kind, stock, limit, l[:i+1], told, want)
		}
		follows(t, p, ahead)
	}
	for range 2 {
		if s, want := p.Statement(), w.Statement(); !rows.Same(s, want) || !rows.Valid(s) {
			t.Errorf("%v: %v; want %v", l, s, want)
		}
	}
	return p
}

// follows holds that a party's rows may be its own, that those that stood ahead of a message are as they were, that an undone deed is there, and that no stock is below 0.
func follows(t testing.TB, p *Party, ahead []api.Row) {
	t.Helper()
	l := p.Rows()
	if !rows.Check(l, p.kind) {
		t.Errorf("Rows: %v, that may not be those of %d", l, p.kind)
	}
	for _, r := range ahead {
		if !slices.Contains(l, r) {
			t.Errorf("Rows: %v; want %v among them, as ahead", l, r)
		}
	}
	for _, r := range l {
		undone := api.Key{Order: r.Key.Order, Deed: r.Key.Deed - 3}
		if r.Key.Deed < 3 {
			continue
		}
		if !slices.ContainsFunc(l, func(x api.Row) bool { return x.Key == undone && x.Amount == r.Amount && x.Qty == r.Qty }) || r.Code != 1 {
			t.Errorf("Rows: %v: %v undoes nothing that is there, or not all of it", l, r)
		}
	}
	for _, sku := range someGoods() {
		if n := p.Left(sku); n < 0 || n > 1000000000 {
			t.Errorf("Left(%q): %d", sku, n)
		}
	}
}

// sizes are numbers round about where something turns.
func sizes() []int64 {
	l := []int64{math.MinInt64, math.MinInt64 + 1, math.MinInt64 + 4, math.MaxInt64, math.MaxInt64 - 1, -1 << 32, -1<<32 + 4, -1<<32 + 1, -1 << 8, -1000000000}
	for n := int64(-3); n <= 8; n++ {
		l = append(l, n)
	}
	for _, n := range []int64{60, 61, 255, 256, 259, 260, 300, 999, 1000, 1 << 16, 1000000000, 1<<31 - 1, 1 << 31, 1<<32 - 1, 1 << 32, 1<<32 + 1, 1<<32 + 3, 1<<32 + 4, 1 << 40, 1 << 41, 1 << 62} {
		l = append(l, n-1, n, n+1)
	}
	return l
}
