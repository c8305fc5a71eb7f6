package books

import (
	"math"
	"math/rand"
	"slices"
	"strings"
	"testing"

	"consignor/api"
	"consignor/samples"
)

// P9.1: books without postings, that are some.
func TestNew(t *testing.T) {
	b := New()
	stand(t, b)
	comesTo0(t, b)
	for _, n := range balances(b) {
		if n != 0 {
			t.Errorf("New: %s", state(b))
		}
	}
	answers(t, b, posting("a", 1, api.AcCash, api.AcSales, 1), api.OK)
	stand(t, New())
}

// P9.1: what may be is there, behind all others, and is debited and credited, of its order and of all.
func TestPost(t *testing.T) {
	b := New()
	a := api.Posting{Id: "a", Order: 1, Debit: api.AcSuspense, Credit: api.AcSales, Amount: 500}
	answers(t, b, a, api.OK)
	stand(t, b, a)
	has(t, b, api.AcSuspense, 1, 500)
	has(t, b, api.AcSales, 1, -500)
	has(t, b, api.AcCash, 1, 0)
	c := api.Posting{Id: "c", Order: 2, Debit: api.AcCash, Credit: api.AcSuspense, Amount: 120}
	answers(t, b, c, api.OK)
	last := api.Posting{Id: "b", Order: 1, Debit: api.AcCash, Credit: api.AcSuspense, Amount: 500}
	answers(t, b, last, api.OK)
	stand(t, b, a, c, last)
	for i, row := range [][5]int64{{-500, -120, 620, 0, 0}, {-500, 0, 500, 0, 0}, {0, -120, 120, 0, 0}, {}} {
		for account, n := range row {
			has(t, b, account, i, n)
		}
	}
	comesTo0(t, b)
}

// P9.1: all pairs of unlike accounts, and of none other.
func TestPostOfAccounts(t *testing.T) {
	for debit := -1; debit <= 5; debit++ {
		for credit := -1; credit <= 5; credit++ {
			b, p := New(), api.Posting{Id: "a", Order: 3, Debit: debit, Credit: credit, Amount: 7}
			if debit == credit || debit < 0 || debit > 4 || credit < 0 || credit > 4 {
				unchanged(t, b, p, api.ErrArg)
				stand(t, b)
				continue
			}
			answers(t, b, p, api.OK)
			stand(t, b, p)
			for account := range 5 {
				want := map[int]int64{debit: 7, credit: -7}[account]
				has(t, b, account, 3, want)
				has(t, b, account, 0, want)
				has(t, b, account, 2, 0)
			}
		}
	}
}

// P9.1: the edges of what may be: any Id with a byte, the order 1 and the greatest one, the amount 0 and the greatest one.
func TestPostOfEdges(t *testing.T) {
	b, want := New(), []api.Posting{}
	for _, id := range []string{"\x00", "0", "\xFF", " ", "  ", "a", "A", "a ", "aa", "a\x00", "é", "e\u0301", strings.Repeat("a", 1<<17), strings.Repeat("a", 1<<17) + "b"} {
		p := posting(id, 1, api.AcSales, api.AcSuspense, 1)
		want = append(want, p)
		answers(t, b, p, api.OK)
		stand(t, b, want...)
		has(t, b, api.AcSuspense, 1, int64(len(want)))
	}
	b = posted(t, posting("a", math.MaxInt, 0, 4, 9), posting("b", 61, 0, 4, 8), posting("c", 1<<32+1, 0, 4, 7), posting("d", 1, 0, 4, 0), posting("e", 2, 0, 4, 6))
	for order, n := range map[int]int64{math.MaxInt: 9, 61: 8, 1<<32 + 1: 7, 1: 0, 2: 6, 0: 30} {
		has(t, b, 4, order, n)
		has(t, b, 0, order, -n)
	}
	b = posted(t, posting("a", 1, 3, 2, greatest), posting("b", 1, 3, 2, 0))
	has(t, b, 2, 1, greatest)
	has(t, b, 3, 0, -greatest)
	comesTo0(t, b)
}

// notSome are postings that may not be.
func notSome() []api.Posting {
	return []api.Posting{
		{}, {Id: "n"}, {Id: "n", Order: 1}, {Id: "n", Order: 1, Amount: 5}, {Id: "n", Order: 1, Debit: 2, Credit: 2, Amount: 5}, {Order: 1, Debit: 1, Credit: 2, Amount: 5},
		posting("", 1, 0, 1, 5), posting("n", 0, 0, 1, 5), posting("n", -1, 0, 1, 5), posting("n", math.MinInt, 0, 1, 5),
		posting("n", 1, -1, 1, 5), posting("n", 1, 1, -1, 5), posting("n", 1, 5, 1, 5), posting("n", 1, 1, 5, 5),
		posting("n", 1, math.MinInt, 1, 5), posting("n", 1, 1, math.MaxInt, 5), posting("n", 1, 1<<32, 1, 5), posting("n", 1, -1, 5, 5), posting("n", 1, 7, 7, 5),
		posting("n", 1, 0, 1, -1), posting("n", 1, 0, 1, least), posting("n", 1, 0, 1, -greatest), posting("", -1, 9, 9, -1),
	}
}

// P9.1: what may not be is refused, and nothing changes; also where its Id is there, or a sum would be beyond int64.
func TestPostOfNone(t *testing.T) {
	n := posting("n", 1, 0, 1, 5)
	for _, ahead := range [][]api.Posting{nil, {posting("a", 1, 0, 1, 5)}, {n}, {posting("a", 1, 0, 1, greatest), posting("b", 1, 2, 3, greatest)}, {posting("n", 1, 1, 0, greatest)}} {
		b := posted(t, ahead...)
		for _, p := range notSome() {
			unchanged(t, b, p, api.ErrArg)
		}
		stand(t, b, ahead...)
	}
	// The Id of one that was refused is not taken.
	b := New()
	for _, p := range notSome() {
		unchanged(t, b, p, api.ErrArg)
	}
	answers(t, b, n, api.OK)
	stand(t, b, n)
}

// P9.1: the same again is OK, another one with its Id ErrTwice; nothing changes, and it is not behind others.
func TestPostAgain(t *testing.T) {
	a := posting("a", 2, api.AcCash, api.AcRefund, 5)
	others := []api.Posting{
		posting("a", 1, 2, 3, 5), posting("a", 3, 2, 3, 5), posting("a", 2, 3, 2, 5), posting("a", 2, 1, 3, 5), posting("a", 2, 2, 4, 5),
		posting("a", 2, 2, 3, 4), posting("a", 2, 2, 3, 6), posting("a", 2, 2, 3, 0), posting("a", 2, 2, 3, 5+1<<32), posting("a", 2, 2, 3, greatest),
	}
	b := posted(t, posting("first", 2, 2, 3, 0), a, posting("last", 1, 3, 2, 1))
	for range 3 {
		unchanged(t, b, a, api.OK)
		for _, p := range others {
			unchanged(t, b, p, api.ErrTwice)
		}
	}
	stand(t, b, posting("first", 2, 2, 3, 0), a, posting("last", 1, 3, 2, 1))
	has(t, b, api.AcRefund, 2, 5)
	// What has all but its Id is another one.
	answers(t, b, posting("a again", 2, 2, 3, 5), api.OK)
	has(t, b, api.AcRefund, 2, 10)
}

// P9.1: where the same, or another one with its Id, would be beyond int64, that is not told.
func TestPostAgainOver(t *testing.T) {
	a := posting("a", 1, api.AcSales, api.AcSuspense, greatest)
	b := posted(t, a)
	unchanged(t, b, a, api.OK)
	unchanged(t, b, posting("a", 1, 0, 1, greatest-1), api.ErrTwice)
	unchanged(t, b, posting("b", 1, 0, 1, greatest), api.ErrOver)
	unchanged(t, b, posting("b", 1, 0, 1, greatest), api.ErrOver)
}

// P9.1: each of the four balances is held to int64 by itself, at both ends, to the unit.
func TestPostOver(t *testing.T) {
	for _, x := range []struct {
		balance string
		ahead   []api.Posting
		over    api.Posting // beyond int64 by one
	}{
		{"debit", []api.Posting{posting("a", 1, 0, 1, greatest)}, posting("p", 1, 2, 1, 1)},
		{"debit of the order", []api.Posting{posting("a", 1, 0, 1, greatest), posting("b", 2, 1, 0, 10)}, posting("p", 1, 2, 1, 1)},
		{"debit of all", []api.Posting{posting("a", 1, 0, 1, greatest)}, posting("p", 2, 2, 1, 1)},
		{"credit", []api.Posting{posting("a", 1, 0, 1, greatest)}, posting("p", 1, 0, 2, 2)},
		{"credit of the order", []api.Posting{posting("a", 1, 0, 1, greatest), posting("b", 2, 1, 0, 10)}, posting("p", 1, 0, 2, 2)},
		{"credit of all", []api.Posting{posting("a", 1, 0, 1, greatest)}, posting("p", 2, 0, 2, 2)},
		{"greatest onto one", []api.Posting{posting("a", 1, 0, 1, 1)}, posting("p", 1, 2, 1, greatest)},
		{"greatest off two", []api.Posting{posting("a", 1, 0, 1, 2)}, posting("p", 1, 0, 2, greatest)},
	} {
		t.Run(x.balance, func(t *testing.T) {
			b := posted(t, x.ahead...)
			unchanged(t, b, x.over, api.ErrOver)
			stand(t, b, x.ahead...)
			// One less is not, and the Id that was refused is not taken.
			x.over.Amount--
			answers(t, b, x.over, api.OK)
			stand(t, b, append(x.ahead, x.over)...)
			comesTo0(t, b)
		})
	}
}

// P9.1: a balance goes to the least amount and to the greatest one, and back.
func TestPostToEnds(t *testing.T) {
	b := posted(t, posting("a", 1, 0, 1, greatest), posting("b", 1, 0, 2, 1))
	has(t, b, 0, 1, least)
	has(t, b, 0, 0, least)
	for _, order := range []int{1, 2, 9} {
		unchanged(t, b, posting("c", order, 0, 2, 1), api.ErrOver)
		unchanged(t, b, posting("c", order, 0, 1, greatest), api.ErrOver)
		unchanged(t, b, posting("c", order, 3, 1, 1), api.ErrOver)
	}
	answers(t, b, posting("c", 1, 0, 2, 0), api.OK)
	answers(t, b, posting("d", 1, 1, 0, greatest), api.OK)
	has(t, b, 0, 1, -1)
	has(t, b, 1, 0, 0)
	answers(t, b, posting("e", 1, 3, 1, greatest), api.OK)
	answers(t, b, posting("f", 1, 1, 0, greatest), api.OK)
	has(t, b, 0, 0, greatest-1)
	comesTo0(t, b)
}

// P9.2: 0 of accounts and orders that are none, or that have nothing.
func TestBalance(t *testing.T) {
	b := posted(t, posting("a", 1, 0, 4, 5), posting("b", 2, 4, 1, 3))
	for _, account := range []int{math.MinInt, -1, 5, 6, 1 << 32, math.MaxInt} {
		for _, order := range someOrders() {
			has(t, b, account, order, 0)
		}
	}
	for account := range 5 {
		for _, order := range []int{math.MinInt, -1, -2, 3, 1<<32 + 1, math.MaxInt} {
			has(t, b, account, order, 0)
		}
	}
	has(t, b, 4, 0, 2)
	has(t, b, 4, 1, 5)
	has(t, b, 4, 2, -3)
	ahead := state(b)
	b.Balance(3, 7)
	if state(b) != ahead || b.Many() != 2 {
		t.Errorf("asked for a balance: %s; want %s", state(b), ahead)
	}
}

// P9.2: all accounts come to 0, also where some of them together are beyond int64.
func TestZero(t *testing.T) {
	for _, s := range samples.Texts("\x00\x01\x02\x03\x04", 4) {
		if len(s) < 4 || s[0] == s[1] || s[2] == s[3] {
			continue
		}
		b, from, to, from2, to2 := New(), int(s[0]), int(s[1]), int(s[2]), int(s[3])
		// Those that are refused, since a balance would be beyond int64, change nothing; the others come to 0.
		for _, p := range []api.Posting{posting("a", 1, from, to, greatest), posting("b", 2, from, to, 1), posting("c", 3, from2, to2, greatest), posting("d", 4, from2, to2, 1)} {
			b.Post(p)
			comesTo0(t, b)
		}
	}
	b := posted(t, posting("a", 1, 2, 0, greatest), posting("b", 2, 3, 1, greatest), posting("c", 3, 2, 4, 1), posting("d", 3, 3, 4, 1))
	for account, n := range []int64{greatest, greatest, least, least, 2} {
		has(t, b, account, 0, n)
	}
	comesTo0(t, b)
}

// P9.2: a copy has the same, and goes on by itself, and so does what it is of.
func TestCopy(t *testing.T) {
	stand(t, New().Copy())
	for many := range 9 {
		l := []api.Posting{}
		for i := range many {
			l = append(l, posting(string(rune('a'+i)), i+1, i%5, (i+1)%5, int64(i)))
		}
		b := posted(t, l...)
		c := b.Copy()
		if state(b) != state(c) {
			t.Errorf("Copy: %s; want %s", state(c), state(b))
		}
		for _, p := range l {
			unchanged(t, c, p, api.OK)
			p.Amount++
			unchanged(t, c, p, api.ErrTwice)
		}
		one, two, three, four := posting("x", 1, 0, 1, 5), posting("y", 2, 1, 0, 6), posting("x", 3, 3, 4, 7), posting("z", 4, 4, 2, 8)
		answers(t, b, one, api.OK)
		stand(t, c, l...)
		answers(t, c, two, api.OK)
		answers(t, c, three, api.OK)
		d := c.Copy()
		answers(t, d, four, api.OK)
		stand(t, b, append(slices.Clone(l), one)...)
		stand(t, c, append(slices.Clone(l), two, three)...)
		stand(t, d, append(slices.Clone(l), two, three, four)...)
		// Each has what it would have, were there no others.
		for _, x := range []*Books{b, c, d} {
			if alone := posted(t, x.List()...); state(x) != state(alone) {
				t.Errorf("of a copy: %s; want %s", state(x), state(alone))
			}
		}
	}
}

// P9.3: of books that are none.
func TestNone(t *testing.T) {
	for _, b := range []*Books{nil, {}, new(Books)} {
		for range 2 {
			for _, p := range append(notSome(), posting("a", 1, 0, 1, 5)) {
				answers(t, b, p, api.ErrNil)
			}
			for _, order := range someOrders() {
				for account := -1; account <= 5; account++ {
					has(t, b, account, order, 0)
				}
			}
			if b.Zero() || b.Many() != 0 || len(b.List()) != 0 || b.Copy() != nil {
				t.Errorf("of none: %v, %d, %v, %v", b.Zero(), b.Many(), b.List(), b.Copy())
			}
		}
	}
}

// ways calls with each order that a list can have.
func ways(l []api.Posting, from int, do func(l []api.Posting)) {
	if from == len(l) {
		do(l)
		return
	}
	for i := from; i < len(l); i++ {
		l[from], l[i] = l[i], l[from]
		ways(l, from+1, do)
		l[from], l[i] = l[i], l[from]
	}
}

// P9.4: in which order they come, and how often, makes no difference to balances.
func TestAnyOrder(t *testing.T) {
	for _, l := range [][]api.Posting{
		{posting("a", 1, 0, 1, 500), posting("b", 1, 1, 2, 500), posting("c", 2, 0, 1, 7), posting("d", 2, 1, 3, 7), posting("e", 1, 2, 1, 100), posting("f", 3, 4, 0, 0)},
		{posting("a", 1, 0, 1, greatest/3), posting("b", 2, 0, 1, greatest/3), posting("c", 3, 0, 1, greatest/3), posting("d", 1, 2, 3, greatest), posting("e", 9, 4, 2, greatest)},
	} {
		want := balances(posted(t, l...))
		ways(l, 0, func(l []api.Posting) {
			b := posted(t, l...)
			for i := range l {
				answers(t, b, l[len(l)-1-i], api.OK)
				answers(t, b, l[i], api.OK)
			}
			stand(t, b, l...)
			if n := balances(b); !slices.Equal(n, want) {
				t.Errorf("%s: %d; want %d", text(l...), n, want)
			}
			if many := posted(t, append(append(slices.Clone(l[:2]), l[:3]...), l...)...); !slices.Equal(balances(many), want) {
				t.Errorf("%s, some ahead: %d; want %d", text(l...), balances(many), want)
			}
		})
	}
}

// P9.1, P9.2, P9.4, by the chapter's words: all short lists of some postings.
func TestAllShort(t *testing.T) {
	some := []api.Posting{
		posting("a", 1, 0, 1, 5), posting("a", 1, 0, 1, 6), posting("b", 1, 1, 0, greatest), posting("c", 2, 1, 0, greatest), posting("d", 1, 2, 1, greatest-4),
		posting("e", 2, 0, 2, 1), posting("f", 2, 0, 1, 0), posting("a", 2, 0, 1, -1), posting("b", 1, 1, 0, greatest),
	}
	for _, s := range samples.Texts("\x00\x01\x02\x03\x04\x05\x06\x07\x08", 4) {
		l := []api.Posting{}
		for _, i := range []byte(s) {
			l = append(l, some[i])
		}
		agree(t, l)
	}
}

// somePosting is one of four bytes; most of them may be.
func somePosting(id, order, accounts, amount byte) api.Posting {
	ids := []string{"a", "b", "c", "d", "e", "f", "g", "h", "i", "aa", "s1-1", "1/0", "\x00", "\xFF", "a ", ""}
	orders := []int{1, 2, 3, 1, 2, 3, 4, 60, 61, math.MaxInt, 1, 2, 1 << 32, 0, -1, math.MinInt}
	amounts := []int64{0, 1, 2, 5, 100, api.MaxAmount, greatest, greatest - 1, greatest / 2, greatest/2 + 1, greatest - 100, 1 << 62, 7, 9, -1, least}
	debit, credit := int(accounts%16)%6, int(accounts/16)%7-1
	return api.Posting{Id: ids[id%16] + strings.Repeat("+", int(id/16)), Order: orders[order%16], Debit: debit, Credit: credit, Amount: amounts[amount%16] / int64(1+amount/16)}
}

// postingsOf are those of a text, four bytes each.
func postingsOf(s string) (l []api.Posting) {
	for ; len(s) >= 4; s = s[4:] {
		l = append(l, somePosting(s[0], s[1], s[2], s[3]))
	}
	return l
}

// P9.1, P9.2, P9.4: long lists.
func TestLong(t *testing.T) {
	r := rand.New(rand.NewSource(9))
	for range 40 {
		b := make([]byte, 4*80)
		r.Read(b)
		taken := agree(t, postingsOf(string(b))).List()
		want := balances(posted(t, taken...))
		// Those that were taken are, or are refused, also in another order; where all are taken, it makes no difference.
		r.Shuffle(len(taken), func(i, j int) { taken[i], taken[j] = taken[j], taken[i] })
		if other := agree(t, taken); other.Many() == len(taken) && !slices.Equal(balances(other), want) {
			t.Errorf("%s: %d; want %d", text(taken...), balances(other), want)
		}
	}
}

// P9.1, P9.2, P9.4: of more postings than a desk ever has each stands once.
func TestMany(t *testing.T) {
	b, want := New(), []api.Posting{}
	for i := range 20000 {
		p := posting("s"+strings.Repeat("x", i%50)+string(rune(0x100+i)), i%60+1, i%5, (i+1+i%4)%5, int64(i))
		want = append(want, p)
		answers(t, b, p, api.OK)
		answers(t, b, p, api.OK)
	}
	stand(t, b, want...)
	comesTo0(t, b)
	for account := range 5 {
		has(t, b, account, 0, sum(want, account, 0).Int64())
		has(t, b, account, 17, sum(want, account, 17).Int64())
	}
}

// P9.1, P9.2, P9.4, of any postings: four bytes each.
func FuzzAny(f *testing.F) {
	f.Add("\x00\x00\x12\x03\x00\x00\x12\x03\x00\x00\x12\x04")
	f.Add("\x00\x00\x21\x06\x01\x00\x13\x01\x02\x01\x13\x01\x0f\x00\x21\x01\x03\x0d\x21\x01")
	f.Add("\x00\x00\x21\x06\x01\x01\x12\x05\x02\x00\x31\x01\x03\x02\x00\x0e\x04\x00\x55\x01")
	f.Fuzz(func(t *testing.T, s string) { agree(t, postingsOf(s[:min(len(s), 200)])) })
}

// The chapter's examples.
func TestExamples(t *testing.T) {
	b := New()
	a := api.Posting{Id: "a", Order: 1, Debit: api.AcSuspense, Credit: api.AcCash, Amount: 5}
	answers(t, b, a, api.OK)
	answers(t, b, a, api.OK)
	a.Amount = 6
	answers(t, b, a, api.ErrTwice)
	has(t, b, api.AcSuspense, 1, 5)
	has(t, b, api.AcCash, 0, -5)
	has(t, b, api.AcCash, 2, 0)
	if b.Many() != 1 {
		t.Errorf("Many: %d; want 1", b.Many())
	}
	answers(t, b, api.Posting{Id: "b", Order: 1, Debit: api.AcSuspense, Credit: api.AcCash, Amount: 1<<63 - 1}, api.ErrOver)
	answers(t, b, api.Posting{Id: "c", Order: 1, Debit: api.AcCash, Credit: api.AcCash, Amount: 5}, api.ErrArg)
}

// R4: lists that are told are the caller's own.
func TestListsAreTheirOwn(t *testing.T) {
	l := []api.Posting{posting("a", 1, 0, 1, 5), posting("b", 2, 1, 2, 6), posting("c", 1, 3, 4, 7)}
	b := posted(t, l...)
	told, again, ahead := b.List(), b.List(), state(b)
	told[0] = posting("x", 9, 4, 3, 9)
	_ = append(told[:1], again[2])
	slices.Reverse(told)
	if !slices.Equal(again, l) || state(b) != ahead {
		t.Errorf("List, changed: %s, and again %s; want %s", state(b), text(again...), ahead)
	}
	answers(t, b, posting("d", 1, 0, 1, 1), api.OK)
	if !slices.Equal(again, l) || told[2] != posting("x", 9, 4, 3, 9) {
		t.Errorf("List, behind a Post: %s, and %s", text(again...), text(told...))
	}
}

// R2: books know nothing of each other.
func TestSameAgain(t *testing.T) {
	r := rand.New(rand.NewSource(10))
	a, b, other := New(), New(), New()
	for range 300 {
		s := make([]byte, 8)
		r.Read(s)
		l := postingsOf(string(s))
		e := a.Post(l[0])
		other.Post(l[1])
		if again := b.Post(l[0]); again != e || state(a) != state(b) {
			t.Fatalf("%s: %d, %s; again %d, %s", text(l[0]), int(e), state(a), int(again), state(b))
		}
	}
}
