package books

import (
	"fmt"
	"math"
	"math/big"
	"slices"
	"strings"
	"testing"

	"consignor/api"
)

const (
	greatest = math.MaxInt64
	least    = math.MinInt64
)

// calls are what books are asked; the tests hold Books against byWords by them.
type calls interface {
	Post(p api.Posting) api.Errno
	Balance(account, order int) int64
	Zero() bool
	Many() int
	List() []api.Posting
}

// byWords is books by the chapter's words: a list, and sums without bounds that are made anew each time.
type byWords struct{ list []api.Posting }

func (w *byWords) Post(p api.Posting) api.Errno {
	accounts := []int{api.AcSales, api.AcSuspense, api.AcCash, api.AcRefund, api.AcWriteOff}
	if len(p.Id) == 0 || p.Order < 1 || !slices.Contains(accounts, p.Debit) || !slices.Contains(accounts, p.Credit) || p.Debit == p.Credit || p.Amount < 0 {
		return api.ErrArg
	}
	for _, there := range w.list {
		if there.Id == p.Id && there == p {
			return api.OK
		}
		if there.Id == p.Id {
			return api.ErrTwice
		}
	}
	next := append(slices.Clone(w.list), p)
	for _, account := range []int{p.Debit, p.Credit} {
		for _, order := range []int{p.Order, 0} {
			if !sum(next, account, order).IsInt64() {
				return api.ErrOver
			}
		}
	}
	w.list = next
	return api.OK
}

func (w *byWords) Balance(account, order int) int64 { return sum(w.list, account, order).Int64() }

func (w *byWords) Zero() bool {
	all := new(big.Int)
	for account := range 5 {
		all.Add(all, sum(w.list, account, 0))
	}
	return all.Sign() == 0
}

func (w *byWords) Many() int { return len(w.list) }

func (w *byWords) List() []api.Posting { return slices.Clone(w.list) }

// sum is the balance of postings, without bounds.
func sum(l []api.Posting, account, order int) *big.Int {
	n := new(big.Int)
	for _, p := range l {
		if order != 0 && order != p.Order {
			continue
		}
		if p.Debit == account {
			n.Add(n, big.NewInt(p.Amount))
		}
		if p.Credit == account {
			n.Sub(n, big.NewInt(p.Amount))
		}
	}
	return n
}

// someOrders are those that the tests post to, and such as are none.
func someOrders() []int { return []int{math.MinInt, -1, 0, 1, 2, 3, 4, 60, 61, 1 << 32, math.MaxInt} }

// text is postings, each as "from>to".
func text(l ...api.Posting) string {
	var told strings.Builder
	for _, p := range l {
		fmt.Fprintf(&told, " %q of %d: %d>%d %d", p.Id, p.Order, p.Credit, p.Debit, p.Amount)
	}
	return told.String()
}

// state is all that books tell: of all accounts and some orders, and of such as are none.
func state(b calls) string {
	told := fmt.Sprintf("%d, %v,%s:", b.Many(), b.Zero(), text(b.List()...))
	for _, order := range someOrders() {
		for account := -1; account <= 5; account++ {
			if n := b.Balance(account, order); n != 0 {
				told += fmt.Sprintf(" (%d, %d) %d", account, order, n)
			}
		}
	}
	return told
}

// balances are all that books have, of some orders.
func balances(b calls) (l []int64) {
	for _, order := range someOrders() {
		for account := range 5 {
			l = append(l, b.Balance(account, order))
		}
	}
	return l
}

// posting moves an amount of an order from one account to another one.
func posting(id string, order, from, to int, amount int64) api.Posting {
	return api.Posting{Id: id, Order: order, Debit: to, Credit: from, Amount: amount}
}

// posted are books with postings, each of which is to be taken.
func posted(t testing.TB, l ...api.Posting) *Books {
	t.Helper()
	b := New()
	for _, p := range l {
		answers(t, b, p, api.OK)
	}
	return b
}

func answers(t testing.TB, b *Books, p api.Posting, want api.Errno) {
	t.Helper()
	if e := b.Post(p); e != want {
		t.Errorf("Post(%.200s): %d; want %d", text(p), int(e), int(want))
	}
}

// unchanged posts what is to answer so, and holds that nothing changes.
func unchanged(t testing.TB, b *Books, p api.Posting, want api.Errno) {
	t.Helper()
	ahead := state(b)
	answers(t, b, p, want)
	if behind := state(b); behind != ahead {
		t.Errorf("Post(%.200s) leads from %.300s to %.300s", text(p), ahead, behind)
	}
}

// has holds a balance.
func has(t testing.TB, b *Books, account, order int, want int64) {
	t.Helper()
	if n := b.Balance(account, order); n != want {
		t.Errorf("Balance(%d, %d): %d; want %d", account, order, n, want)
	}
}

// stand holds which postings there are.
func stand(t testing.TB, b *Books, want ...api.Posting) {
	t.Helper()
	if l := b.List(); !slices.Equal(l, want) || b.Many() != len(want) {
		t.Errorf("List %.300s, Many %d; want %.300s", text(l...), b.Many(), text(want...))
	}
}

// agree posts a list to books, and to such by the chapter's words, and holds one against the other behind each.
func agree(t testing.TB, l []api.Posting) *Books {
	t.Helper()
	b, w := New(), &byWords{}
	for i, p := range l {
		if e, want := b.Post(p), w.Post(p); e != want {
			t.Fatalf("%s: %d; want %d", text(l[:i+1]...), int(e), int(want))
		}
		if told, want := state(b), state(w); told != want {
			t.Fatalf("%s: %s; want %s", text(l[:i+1]...), told, want)
		}
	}
	comesTo0(t, b)
	return b
}

// comesTo0 holds, without bounds, that all accounts of an order come to 0, and that the order 0 has what all orders have.
func comesTo0(t testing.TB, b *Books) {
	t.Helper()
	orders := map[int]bool{}
	for _, p := range b.List() {
		orders[p.Order] = true
	}
	all := map[int]*big.Int{}
	for account := range 5 {
		all[account] = new(big.Int)
	}
	for order := range orders {
		accounts := new(big.Int)
		for account := range 5 {
			n := big.NewInt(b.Balance(account, order))
			accounts.Add(accounts, n)
			all[account].Add(all[account], n)
		}
		if accounts.Sign() != 0 {
			t.Errorf("%.300s: all accounts of the order %d come to %v", text(b.List()...), order, accounts)
		}
	}
	for account, n := range all {
		if told := big.NewInt(b.Balance(account, 0)); told.Cmp(n) != 0 {
			t.Errorf("%.300s: Balance(%d, 0): %v; want %v", text(b.List()...), account, told, n)
		}
	}
	if !b.Zero() {
		t.Errorf("%.300s: Zero: false", text(b.List()...))
	}
}
