package party

import (
	"math"
	"math/rand"
	"slices"
	"strings"
	"testing"

	"consignor/api"
	"consignor/orders"
	"consignor/rows"
	"consignor/samples"
)

// P16.1: a party of each kind, without rows; of what is no kind none.
func TestNew(t *testing.T) {
	for kind := range 3 {
		p := New(kind, 5, 100)
		if p == nil {
			t.Fatalf("New(%d): nil", kind)
		}
		stand(t, p)
		says(t, p, 1)
	}
	for _, kind := range []int{-1, 3, 4, 5, 255, 256, 257, 258, -255, 1 << 32, 1<<32 + 1, 1<<32 + 2, math.MinInt, math.MinInt + 1, math.MaxInt} {
		for _, n := range []int{-1, 0, 5} {
			if New(kind, n, int64(n)) != nil {
				t.Errorf("New(%d): some", kind)
			}
		}
	}
}

// P16.1, P16.3: the stock at first, of each name of goods; 0, if it is below 0; 10^9, if it is above.
func TestStockAtFirst(t *testing.T) {
	for _, x := range [][2]int{
		{0, 0}, {1, 1}, {5, 5}, {-1, 0}, {-5, 0}, {math.MinInt, 0}, {math.MinInt + 5, 0}, {-1 << 32, 0}, {-1<<32 + 5, 0},
		{999999999, 999999999}, {1000000000, 1000000000}, {1000000001, 1000000000}, {1<<31 - 1, 1000000000}, {1 << 31, 1000000000}, {1 << 32, 1000000000}, {1<<32 + 5, 1000000000}, {math.MaxInt, 1000000000},
	} {
		for _, limit := range []int64{math.MinInt64, 0, 7, math.MaxInt64} {
			p := New(api.PaStore, x[0], limit)
			for _, sku := range []string{"nut", "bolt", "a", "abcdefgh"} {
				has(t, p, sku, x[1])
			}
			stand(t, p)
			if x[1] >= 3 {
				answers(t, p, reserve(1, "nut", 3), api.CoDone)
				has(t, p, "nut", x[1]-3)
			} else {
				answers(t, p, reserve(1, "nut", 3), api.CoRefused)
				has(t, p, "nut", x[1])
			}
			answers(t, p, release(1, "nut", 3), api.CoDone)
			has(t, p, "nut", x[1])
			has(t, p, "bolt", x[1])
		}
	}
}

// P16.1: of parties that are none.
func TestNone(t *testing.T) {
	for _, p := range []*Party{nil, {}, new(Party), New(3, 5, 100)} {
		for range 2 {
			for _, m := range []api.Msg{charge(1, 50), reserve(1, "nut", 1), ship(1, 1), refund(1, 50), release(1, "nut", 1), void(1, 1), {}} {
				if a, ok := p.Ask(m); a != (api.Msg{}) || ok {
					t.Errorf("of none: Ask(%v): %v, %v", m, a, ok)
				}
			}
			if l := p.Rows(); len(l) != 0 || p.Copy() != nil {
				t.Errorf("of none: %v, %v", l, p.Copy())
			}
			saysNothing(t, p)
			for _, sku := range someGoods() {
				has(t, p, sku, 0)
			}
		}
	}
}

// P16.2: the warehouse reserves as much as there is of those goods, and no more.
func TestReserve(t *testing.T) {
	p := New(api.PaStore, 5, 0)
	answers(t, p, reserve(1, "nut", 6), api.CoRefused)
	has(t, p, "nut", 5)
	answers(t, p, reserve(2, "nut", 3), api.CoDone)
	has(t, p, "nut", 2)
	answers(t, p, reserve(3, "nut", 3), api.CoRefused)
	answers(t, p, reserve(4, "bolt", 5), api.CoDone)
	answers(t, p, reserve(5, "nut", 2), api.CoDone)
	answers(t, p, reserve(6, "nut", 1), api.CoRefused)
	answers(t, p, reserve(7, "Nut", 4), api.CoDone)
	for sku, n := range map[string]int{"nut": 0, "bolt": 0, "Nut": 1, "nu": 5, "nuts": 5} {
		has(t, p, sku, n)
	}
	stand(t, p, refused(1, 0), done(2, 0, 0, 3), refused(3, 0), done(4, 0, 0, 5), done(5, 0, 0, 2), refused(6, 0), done(7, 0, 0, 4))
	for stock := range 8 {
		for qty := int64(1); qty <= 9; qty++ {
			p, left, code := New(api.PaStore, stock, 100), stock, api.CoRefused
			if stock >= int(qty) {
				left, code = stock-int(qty), api.CoDone
			}
			answers(t, p, reserve(60, "a", qty), code)
			has(t, p, "a", left)
		}
	}
	p = New(api.PaStore, 60*999, -1)
	for order := 1; order <= 60; order++ {
		answers(t, p, reserve(order, "abcdefgh", 999), api.CoDone)
		has(t, p, "abcdefgh", (60-order)*999)
		has(t, p, "abcdefgi", 60*999)
	}
}

// P16.2, P16.3: stocks of unlike names are apart, also of those that begin alike, or differ in one byte.
func TestGoodsApart(t *testing.T) {
	var names []string
	for i := range 8 {
		names = append(names, "ababcdef"[:i]+"z", "ababcdef"[:i]+"Z", strings.Repeat("-", i)+"y")
	}
	for _, sku := range samples.Names() {
		if orders.May(reserve(1, sku, 1)) {
			names = append(names, sku)
		}
	}
	slices.Sort(names)
	names = slices.Compact(names)
	p, left := New(api.PaStore, 1000, 0), map[string]int{}
	for _, sku := range names {
		left[sku] = 1000
	}
	for i, sku := range names {
		left[sku] -= 7*i + 3
		answers(t, p, reserve(1+i, sku, int64(7*i+3)), api.CoDone)
		for other, n := range left {
			has(t, p, other, n)
		}
	}
}

// P16.2: the payment charges, and the carrier ships, up to the limit.
func TestLimit(t *testing.T) {
	for _, limit := range sizes() {
		for _, n := range sizes() {
			for _, stock := range []int{0, 5} {
				pay, carry := New(api.PaPay, stock, limit), New(api.PaCarry, stock, limit)
				if n < 1 || n > 1<<40 {
					declines(t, pay, api.Msg{To: api.PaPay, Key: api.Key{Order: 9, Deed: api.DeCharge}, Amount: n})
				} else if n > limit {
					answers(t, pay, charge(9, n), api.CoRefused)
					stand(t, pay, refused(9, 1))
				} else {
					answers(t, pay, charge(9, n), api.CoDone)
					stand(t, pay, done(9, 1, n, 0))
				}
				if n < 1 || n > 999 {
					declines(t, carry, api.Msg{To: api.PaCarry, Key: api.Key{Order: 9, Deed: api.DeShip}, Sku: "nut", Qty: int(n)})
				} else if n > limit {
					answers(t, carry, ship(9, n), api.CoRefused)
					stand(t, carry, refused(9, 2))
				} else {
					answers(t, carry, ship(9, n), api.CoDone)
					stand(t, carry, done(9, 2, 0, int(n)))
				}
			}
		}
	}
	// The limit is one deed's: what others came to makes no difference.
	p := New(api.PaPay, 0, 300)
	for order := 1; order <= 60; order++ {
		answers(t, p, charge(order, 300), api.CoDone)
	}
}

// P16.2: what undoes a deed that is done is done, with its Amount and Qty, whatever it was asked with.
func TestUndo(t *testing.T) {
	p := New(api.PaPay, 0, 300)
	answers(t, p, charge(7, 250), api.CoDone)
	answers(t, p, refund(7, 250), api.CoDone)
	answers(t, p, charge(8, 250), api.CoDone)
	answers(t, p, refund(8, 999999), api.CoDone)
	answers(t, p, charge(9, 301), api.CoRefused)
	answers(t, p, refund(9, 301), api.CoDone)
	stand(t, p, done(7, 1, 250, 0), done(7, 4, 250, 0), done(8, 1, 250, 0), done(8, 4, 250, 0), refused(9, 1), done(9, 4, 0, 0))
	p = New(api.PaCarry, 0, 4)
	answers(t, p, ship(7, 3), api.CoDone)
	answers(t, p, void(7, 3), api.CoDone)
	answers(t, p, ship(8, 3), api.CoDone)
	answers(t, p, of(8, api.DeVoid, "bolt", 999), api.CoDone)
	answers(t, p, ship(9, 5), api.CoRefused)
	answers(t, p, void(9, 1), api.CoDone)
	stand(t, p, done(7, 2, 0, 3), done(7, 5, 0, 3), done(8, 2, 0, 3), done(8, 5, 0, 3), refused(9, 2), done(9, 5, 0, 0))
	p = New(api.PaStore, 5, 0)
	answers(t, p, reserve(7, "nut", 3), api.CoDone)
	answers(t, p, release(7, "nut", 3), api.CoDone)
	answers(t, p, reserve(8, "nut", 3), api.CoDone)
	answers(t, p, release(8, "bolt", 999), api.CoDone)
	answers(t, p, reserve(9, "nut", 6), api.CoRefused)
	answers(t, p, release(9, "nut", 6), api.CoDone)
	stand(t, p, done(7, 0, 0, 3), done(7, 3, 0, 3), done(8, 0, 0, 3), done(8, 3, 0, 3), refused(9, 0), done(9, 3, 0, 0))
	has(t, p, "nut", 5)
	has(t, p, "bolt", 5)
}

// P16.2: what undoes a deed that is not there writes both, the undone one refused; it is never done behind that.
func TestUndoAhead(t *testing.T) {
	for deed := range 3 {
		for order := 1; order <= 60; order++ {
			kind := []int{api.PaStore, api.PaPay, api.PaCarry}[deed]
			p := New(kind, 5, 100)
			answers(t, p, of(order, deed+3, "nut", 2), api.CoDone)
			stand(t, p, refused(order, deed), done(order, deed+3, 0, 0))
			for n := int64(1); n <= 3; n++ {
				unchanged(t, p, of(order, deed, "nut", n), api.CoRefused)
				unchanged(t, p, of(order, deed+3, "nut", n), api.CoDone)
			}
			if kind == api.PaStore {
				has(t, p, "nut", 5)
			}
			// Of other orders it is done all the same.
			other := order%60 + 1
			answers(t, p, of(other, deed, "nut", 2), api.CoDone)
		}
	}
}

// P16.2, P16.4: the stock is as much more behind a release, once, and of the goods that were reserved.
func TestRelease(t *testing.T) {
	p := New(api.PaStore, 5, 0)
	answers(t, p, reserve(1, "nut", 4), api.CoDone)
	answers(t, p, reserve(2, "bolt", 3), api.CoDone)
	// Asked for again with other goods: those that it was done with are meant.
	unchanged(t, p, reserve(1, "bolt", 1), api.CoDone)
	unchanged(t, p, reserve(2, "nut", 1), api.CoDone)
	answers(t, p, release(1, "bolt", 2), api.CoDone)
	has(t, p, "nut", 5)
	has(t, p, "bolt", 2)
	for _, m := range []api.Msg{release(1, "nut", 4), release(1, "bolt", 2), release(1, "x", 999), reserve(1, "nut", 4), reserve(1, "x", 1)} {
		unchanged(t, p, m, api.CoDone)
	}
	answers(t, p, reserve(3, "nut", 5), api.CoDone)
	has(t, p, "nut", 0)
	answers(t, p, reserve(4, "nut", 1), api.CoRefused)
	answers(t, p, release(4, "nut", 1), api.CoDone)
	has(t, p, "nut", 0)
	answers(t, p, release(5, "nut", 1), api.CoDone)
	has(t, p, "nut", 0)
	answers(t, p, release(2, "nut", 3), api.CoDone)
	has(t, p, "nut", 0)
	has(t, p, "bolt", 5)
	answers(t, p, release(3, "nut", 5), api.CoDone)
	has(t, p, "nut", 5)
	stand(t, p, done(1, 0, 0, 4), done(1, 3, 0, 4), done(2, 0, 0, 3), done(2, 3, 0, 3), done(3, 0, 0, 5), done(3, 3, 0, 5), refused(4, 0), done(4, 3, 0, 0), refused(5, 0), done(5, 3, 0, 0))
	// What was refused while there was too little is so for good.
	unchanged(t, p, reserve(4, "nut", 1), api.CoRefused)
	answers(t, p, reserve(6, "nut", 1), api.CoDone)
}

// P16.2: whatever is asked again is answered in the same way, and changes nothing, also with another Amount, Sku or Qty.
func TestAgain(t *testing.T) {
	for kind := range 3 {
		p, code := New(kind, 100, 100), map[int]int{}
		for order := 1; order <= 60; order++ {
			for deed := range 6 {
				if m := of(order, deed, "nut", int64(order+60)); m.To == kind && (deed < 3 || order%3 == 0) {
					a, ok := p.Ask(m)
					code[10*order+deed] = a.Code
					if !ok {
						t.Fatalf("Ask(%v): false", m)
					}
				}
			}
		}
		ahead := p.Rows()
		for order := 1; order <= 60; order++ {
			for deed := range 6 {
				if code[10*order+deed] == 0 {
					continue
				}
				for _, sku := range []string{"nut", "bolt", "abcdefgh"} {
					for _, n := range []int64{1, int64(order + 60), 100, 101, 999} {
						answers(t, p, of(order, deed, sku, n), code[10*order+deed])
					}
				}
			}
		}
		stand(t, p, ahead...)
		if len(ahead) != 80 {
			t.Errorf("%d rows: %v; want one of each order, and another one of each third", len(ahead), ahead)
		}
	}
	p := New(api.PaStore, 7, 0)
	answers(t, p, reserve(1, "nut", 7), api.CoDone)
	answers(t, p, reserve(2, "nut", 1), api.CoRefused)
	for _, n := range []int64{1, 7, 8, 999} {
		unchanged(t, p, reserve(1, "nut", n), api.CoDone)
		unchanged(t, p, reserve(1, "bolt", n), api.CoDone)
		unchanged(t, p, reserve(2, "nut", n), api.CoRefused)
		unchanged(t, p, reserve(2, "bolt", n), api.CoRefused)
	}
}

// P16.2: what may not be asked, or is another party's, is not taken, whether its deed is there or not.
func TestMayNot(t *testing.T) {
	for kind := range 3 {
		p := New(kind, 5, 100)
		for deed := range 6 {
			m := of(7, deed, "nut", 2)
			if m.To == kind {
				p.Ask(m)
			}
		}
		for _, order := range []int{7, 8} {
			for deed := range 6 {
				good := of(order, deed, "nut", 2)
				if good.To != kind {
					declines(t, p, good)
				}
				for _, change := range []func(m *api.Msg){
					func(m *api.Msg) { m.To = api.PaDesk }, func(m *api.Msg) { m.To = (m.To + 1) % 3 }, func(m *api.Msg) { m.To = (m.To + 2) % 3 }, func(m *api.Msg) { m.To = -1 }, func(m *api.Msg) { m.To += 1 << 32 },
					func(m *api.Msg) { m.Code = api.CoDone }, func(m *api.Msg) { m.Code = api.CoRefused }, func(m *api.Msg) { m.Code = -1 }, func(m *api.Msg) { m.Code = 1 << 32 },
					func(m *api.Msg) { m.Key.Order = 0 }, func(m *api.Msg) { m.Key.Order = 61 }, func(m *api.Msg) { m.Key.Order = -7 }, func(m *api.Msg) { m.Key.Order += 1 << 32 },
					func(m *api.Msg) { m.Key.Deed = -1 }, func(m *api.Msg) { m.Key.Deed = 6 }, func(m *api.Msg) { m.Key.Deed += 6 }, func(m *api.Msg) { m.Key.Deed += 1 << 32 },
					func(m *api.Msg) { m.Sku += "x"; m.Amount++ }, func(m *api.Msg) { m.Qty++; m.Amount++ }, func(m *api.Msg) { m.Qty, m.Amount = 0, 0 }, func(m *api.Msg) { m.Qty, m.Amount = -m.Qty, -m.Amount },
					func(m *api.Msg) { m.Qty *= 500; m.Amount <<= 40 }, func(m *api.Msg) { m.Sku += " " }, func(m *api.Msg) { m.Sku += strings.Repeat("n", 6) + " " }, func(m *api.Msg) { m.Sku += strings.Repeat("n", 100000); m.Qty-- },
				} {
					bad := good
					change(&bad)
					declines(t, p, bad)
				}
				if good.To != api.PaPay {
					for _, sku := range append(samples.Names(), someGoods()...) {
						other := good
						other.Sku = sku
						if !orders.May(other) {
							declines(t, p, other)
						}
					}
				}
			}
		}
		declines(t, p, api.Msg{})
		declines(t, p, api.Msg{To: api.PaDesk, Key: api.Key{Order: 7, Deed: 1}, Code: api.CoDone})
	}
}

// P16.3: the book rises, in whichever order deeds were done; all that there may be of it.
func TestRows(t *testing.T) {
	r := rand.New(rand.NewSource(16))
	for kind := range 3 {
		var l []api.Msg
		var want []api.Row
		for order := 1; order <= 60; order++ {
			for deed := range 6 {
				if m := of(order, deed, "nut", 3); m.To == kind {
					l = append(l, m)
				}
			}
		}
		for range 20 {
			p := New(kind, 1000, 1000)
			r.Shuffle(len(l), func(i, j int) { l[i], l[j] = l[j], l[i] })
			want = nil
			for _, m := range l {
				p.Ask(m)
				want = append(want, api.Row{Key: m.Key})
			}
			slices.SortFunc(want, func(a, b api.Row) int { return 10*a.Key.Order + a.Key.Deed - 10*b.Key.Order - b.Key.Deed })
			if told := p.Rows(); !slices.EqualFunc(told, want, func(a, b api.Row) bool { return a.Key == b.Key }) || len(told) != 120 || !rows.Check(told, kind) {
				t.Errorf("Rows: %v; want the keys of %v", told, want)
			}
			says(t, p, 1, p.Rows()...)
		}
	}
}

// P16.3: statements are of the party's kind, have a Seq each, from 1 on, and the book as it is then.
func TestStatement(t *testing.T) {
	for kind := range 3 {
		p := New(kind, 10, 10)
		says(t, p, 1)
		says(t, p, 2)
		deed := []int{api.DeCharge, api.DeReserve, api.DeShip}[kind]
		answers(t, p, of(3, deed, "nut", 4), api.CoDone)
		one := p.Rows()
		says(t, p, 3, one...)
		says(t, p, 4, one...)
		answers(t, p, of(2, deed+3, "nut", 4), api.CoDone)
		two := p.Rows()
		says(t, p, 5, two...)
		declines(t, p, api.Msg{})
		p.Left("nut")
		says(t, p, 6, two...)
		if len(one) != 1 || len(two) != 3 || one[0] != two[2] {
			t.Errorf("Rows: %v, and then %v", one, two)
		}
		for seq := 7; seq <= 5000; seq++ {
			says(t, p, seq, two...)
		}
	}
}

// P16.3: no statement has a Seq above MaxSeq; all else goes on.
func TestStatementsLast(t *testing.T) {
	for kind := range 3 {
		p := New(kind, 10, 10)
		p.seq = api.MaxSeq - 2
		deed := []int{api.DeCharge, api.DeReserve, api.DeShip}[kind]
		says(t, p, 1<<30-1)
		answers(t, p, of(3, deed, "nut", 4), api.CoDone)
		c := p.Copy()
		says(t, p, 1<<30, p.Rows()...)
		for range 5 {
			saysNothing(t, p)
			saysNothing(t, p.Copy())
		}
		says(t, c, 1<<30, p.Rows()...)
		saysNothing(t, c)
		answers(t, p, of(3, deed+3, "nut", 4), api.CoDone)
		if len(p.Rows()) != 2 || len(c.Rows()) != 1 {
			t.Errorf("Rows: %v, and %v", p.Rows(), c.Rows())
		}
		saysNothing(t, p)
	}
}

// P16.3: Left of all that is a name of goods, or nearly one, or none; 0 of other parties.
func TestLeft(t *testing.T) {
	store, pay, carry := New(api.PaStore, 5, 9), New(api.PaPay, 5, 9), New(api.PaCarry, 5, 9)
	names := append(samples.Names(), someGoods()...)
	for b := range 256 {
		x := string([]byte{byte(b)})
		names = append(names, x, "a"+x, x+"a", "abcdefg"+x, x+"bcdefgh", "abcdefgh"+x)
	}
	for _, sku := range names {
		want := 0
		if orders.Check(api.Order{Id: 1, Ref: "r", Sku: sku, Qty: 1, Amount: 1}) == api.OK {
			want = 5
		}
		has(t, store, sku, want)
		has(t, pay, sku, 0)
		has(t, carry, sku, 0)
	}
	has(t, store, "nut", 5)
	has(t, store, "a b", 0)
	has(t, store, "abcdefghi", 0)
	answers(t, store, reserve(1, "abcdefgh", 2), api.CoDone)
	answers(t, carry, ship(1, 2), api.CoDone)
	answers(t, pay, charge(1, 2), api.CoDone)
	has(t, store, "abcdefgh", 3)
	has(t, store, "abcdefghi", 0)
	has(t, carry, "nut", 0)
}

// P16.3: a copy has the same, and goes on by itself, and so does what it is of.
func TestCopy(t *testing.T) {
	p := New(api.PaStore, 5, 0)
	answers(t, p, reserve(1, "nut", 2), api.CoDone)
	answers(t, p, reserve(2, "nut", 1), api.CoDone)
	says(t, p, 1, p.Rows()...)
	c := p.Copy()
	if whole(c) != whole(p) {
		t.Errorf("Copy: %s; want %s", whole(c), whole(p))
	}
	answers(t, p, reserve(3, "nut", 2), api.CoDone)
	answers(t, p, reserve(4, "bolt", 5), api.CoDone)
	has(t, p, "nut", 0)
	has(t, p, "bolt", 0)
	stand(t, c, done(1, 0, 0, 2), done(2, 0, 0, 1))
	has(t, c, "nut", 2)
	has(t, c, "bolt", 5)
	answers(t, c, release(1, "nut", 2), api.CoDone)
	answers(t, c, release(3, "nut", 2), api.CoDone)
	d := c.Copy()
	answers(t, d, release(2, "nut", 1), api.CoDone)
	has(t, p, "nut", 0)
	has(t, c, "nut", 4)
	has(t, d, "nut", 5)
	// What one released the others still have reserved, and release it, too.
	answers(t, p, release(1, "nut", 2), api.CoDone)
	answers(t, c, release(2, "nut", 1), api.CoDone)
	answers(t, p, reserve(3, "nut", 9), api.CoDone)
	answers(t, d, reserve(3, "nut", 1), api.CoRefused)
	has(t, p, "nut", 2)
	has(t, c, "nut", 5)
	says(t, p, 2, done(1, 0, 0, 2), done(1, 3, 0, 2), done(2, 0, 0, 1), done(3, 0, 0, 2), done(4, 0, 0, 5))
	says(t, p, 3, p.Rows()...)
	says(t, c, 2, done(1, 0, 0, 2), done(1, 3, 0, 2), done(2, 0, 0, 1), done(2, 3, 0, 1), refused(3, 0), done(3, 3, 0, 0))
	says(t, d, 2, c.Rows()...)
	for kind := range 3 {
		p := New(kind, 7, 50)
		c := p.Copy()
		stand(t, c)
		for deed := range 6 {
			for _, n := range []int64{7, 8, 50, 51} {
				a, ok := p.Ask(of(int(n), deed, "nut", n))
				if again, ok2 := c.Ask(of(int(n), deed, "nut", n)); again != a || ok != ok2 || whole(p) != whole(c) {
					t.Errorf("of a copy: Ask: %v, %v; want %v, %v", again, ok2, a, ok)
				}
			}
		}
	}
}

// some are messages for a party that have to do with each other.
func some(kind int) []api.Msg {
	switch kind {
	case api.PaPay:
		return []api.Msg{charge(1, 3), charge(1, 4), charge(2, 3), refund(1, 3), refund(2, 4), ship(1, 1), charge(60, 1)}
	case api.PaStore:
		return []api.Msg{reserve(1, "nut", 3), reserve(1, "bolt", 1), reserve(2, "nut", 2), reserve(3, "nut", 1), release(1, "bolt", 1), release(2, "nut", 2), release(3, "nut", 9), charge(1, 3)}
	}
	return []api.Msg{ship(1, 3), ship(1, 4), ship(2, 3), void(1, 3), void(2, 4), reserve(1, "nut", 1), ship(60, 1)}
}

// P16.2 to P16.4, by the chapter's words: all short lists of some messages.
func TestAllShort(t *testing.T) {
	for kind := range 3 {
		messages := some(kind)
		for _, s := range samples.Texts("\x00\x01\x02\x03\x04\x05\x06\x07"[:len(messages)], 4) {
			var l []api.Msg
			for _, i := range []byte(s) {
				l = append(l, messages[i])
			}
			agree(t, kind, 4, 3, l)
		}
	}
}

// asked are the book and the stocks behind a list.
func asked(kind int, l []api.Msg) string {
	p := New(kind, 4, 3)
	for _, m := range l {
		p.Ask(m)
	}
	return whole(p)
}

// P16.4: a message that is doubled makes no difference, wherever the second one stands.
func TestDoubled(t *testing.T) {
	for kind := range 3 {
		messages := some(kind)
		for _, s := range samples.Texts("\x00\x01\x02\x03\x04\x05\x06\x07"[:len(messages)], 3) {
			var l []api.Msg
			for _, i := range []byte(s) {
				l = append(l, messages[i])
			}
			want := asked(kind, l)
			for i, m := range l {
				for at := i + 1; at <= len(l); at++ {
					if told := asked(kind, slices.Insert(slices.Clone(l), at, m)); told != want {
						t.Errorf("%v, the one at %d again at %d: %s; want %s", l, i, at, told, want)
					}
				}
			}
			if told := asked(kind, append(slices.Clone(l), l...)); told != want {
				t.Errorf("%v, twice: %s; want %s", l, told, want)
			}
		}
	}
}

// P16.4: the stock is what it was at first, less what is reserved and not released, of what the rows say.
func TestStock(t *testing.T) {
	r := rand.New(rand.NewSource(61))
	for range 60 {
		p, first, names := New(api.PaStore, 40, 0), map[int]string{}, []string{"nut", "bolt", "nu"}
		for range 150 {
			order, sku := 1+r.Intn(60), names[r.Intn(3)]
			if r.Intn(3) > 0 {
				// The goods of an order are those that it was asked for first.
				if _, there := first[order]; !there {
					first[order] = sku
				}
				p.Ask(reserve(order, sku, int64(1+r.Intn(15))))
			} else {
				p.Ask(release(order, sku, int64(1+r.Intn(15))))
			}
			left := map[string]int{"nut": 40, "bolt": 40, "nu": 40}
			for _, row := range p.Rows() {
				if row.Key.Deed == api.DeReserve {
					left[first[row.Key.Order]] -= row.Qty
				} else {
					left[first[row.Key.Order]] += row.Qty
				}
			}
			for _, sku := range names {
				has(t, p, sku, left[sku])
				if left[sku] < 0 {
					t.Errorf("Left(%q): %d", sku, left[sku])
				}
			}
		}
	}
}

// aMessage is one of four bytes; most of them may be asked.
func aMessage(order, deed, sku, n byte) api.Msg {
	m := of(1+int(order%62)%60, int(deed%6), someGoods()[sku%12], 1+int64(n%32)*int64(n/16))
	switch deed / 6 {
	case 20:
		m.To++
	case 21:
		m.Code++
	case 22:
		m.Sku = someGoods()[sku%19]
	case 23:
		m.Qty, m.Amount = int(n)*8, int64(n)*8-1
	case 24:
		m.Key.Order = int(order)
	case 25:
		m.Amount <<= 36
	}
	return m
}

// messagesOf are those of a text, four bytes each.
func messagesOf(s string) (l []api.Msg) {
	for ; len(s) >= 4; s = s[4:] {
		l = append(l, aMessage(s[0], s[1], s[2], s[3]))
	}
	return l
}

// P16.2 to P16.4, by the chapter's words: long lists.
func TestLong(t *testing.T) {
	r := rand.New(rand.NewSource(160))
	for range 40 {
		b := make([]byte, 4*150)
		r.Read(b)
		if r.Intn(2) == 0 {
			// Few orders, so that deeds meet each other.
			for i := 0; i < len(b); i += 4 {
				b[i] %= 5
			}
		}
		for kind := range 3 {
			agree(t, kind, r.Intn(600)-5, int64(r.Intn(500)-5), messagesOf(string(b)))
		}
	}
}

// P16.1 to P16.4, of any messages: four bytes each.
func FuzzAny(f *testing.F) {
	f.Add(1, 5, int64(0), "\x00\x00\x00\x23\x00\x00\x00\x23\x01\x00\x00\x23\x00\x03\x00\x23\x00\x00\x00\x23", "nut", 4)
	f.Add(0, 0, int64(300), "\x02\x01\x00\x45\x02\x04\x00\x45\x03\x04\x00\x45\x03\x01\x00\x45", "", -1)
	f.Add(2, -1, int64(9), "\x02\x02\x00\x25\x02\x05\x00\x25\x03\x05\x00\x25\x03\x02\x00\x25\x03\x8E\x00\x25", "a b", 1000)
	f.Fuzz(func(t *testing.T, kind, stock int, limit int64, s, sku string, n int) {
		if p := New(kind, stock, limit); p == nil {
			if kind >= 0 && kind < 3 {
				t.Errorf("New(%d): nil", kind)
			}
			return
		}
		l := messagesOf(s[:min(len(s), 200)])
		for deed := range 6 {
			l = append(l, api.Msg{To: kind, Key: api.Key{Order: n, Deed: deed}, Sku: sku, Qty: n, Amount: limit}, api.Msg{To: kind, Key: api.Key{Order: 1, Deed: deed}, Sku: sku, Qty: n}, api.Msg{To: kind, Key: api.Key{Order: 1, Deed: deed}, Amount: limit})
		}
		p, w := agree(t, kind, stock, limit, l), newByWords(kind, stock, limit)
		for _, m := range l {
			w.Ask(m)
		}
		has(t, p, sku, w.Left(sku))
	})
}

// The chapter's examples, and DOC.md's fifth.
func TestExamples(t *testing.T) {
	p := New(api.PaStore, 5, 0)
	answers(t, p, reserve(1, "nut", 4), api.CoDone)
	answers(t, p, reserve(1, "nut", 4), api.CoDone)
	answers(t, p, reserve(2, "nut", 4), api.CoRefused)
	has(t, p, "nut", 1)
	answers(t, p, release(1, "nut", 4), api.CoDone)
	has(t, p, "nut", 5)
	answers(t, p, reserve(1, "nut", 4), api.CoDone)
	answers(t, p, release(3, "nut", 4), api.CoDone)
	answers(t, p, reserve(3, "nut", 4), api.CoRefused)
	says(t, p, 1, done(1, 0, 0, 4), done(1, 3, 0, 4), refused(2, 0), refused(3, 0), done(3, 3, 0, 0))
	p = New(api.PaStore, 5, 1000)
	answers(t, p, release(3, "x", 1), api.CoDone)
	stand(t, p, refused(3, api.DeReserve), done(3, api.DeRelease, 0, 0))
}

// R4: lists that are told are the caller's own.
func TestListsAreTheirOwn(t *testing.T) {
	p := New(api.PaCarry, 0, 100)
	for order := 1; order <= 9; order++ {
		answers(t, p, ship(order, int64(order)), api.CoDone)
	}
	told, again, s, ahead := p.Rows(), p.Rows(), p.Statement(), whole(p)
	told[0] = refused(60, 5)
	_ = append(told[:1], again[5])
	clear(s.Rows)
	slices.Reverse(s.Rows)
	if whole(p) != ahead || !slices.Equal(p.Rows(), again) {
		t.Errorf("Rows, changed: %s; want %s", whole(p), ahead)
	}
	s = p.Statement()
	answers(t, p, void(1, 1), api.CoDone)
	answers(t, p, ship(10, 1), api.CoDone)
	if len(again) != 9 || again[0] != done(1, 2, 0, 1) || !slices.Equal(s.Rows, again) {
		t.Errorf("Rows, behind more deeds: %v, and %v", again, s)
	}
}

// R2: parties know nothing of each other.
func TestSameAgain(t *testing.T) {
	r := rand.New(rand.NewSource(62))
	for kind := range 3 {
		a, b, other := New(kind, 30, 200), New(kind, 30, 200), New(kind, 3, 20)
		for range 300 {
			s := make([]byte, 8)
			r.Read(s)
			l := messagesOf(string(s))
			answer, ok := a.Ask(l[0])
			other.Ask(l[1])
			other.Statement()
			if again, ok2 := b.Ask(l[0]); again != answer || ok != ok2 || whole(a) != whole(b) {
				t.Fatalf("%v: %v, %s; again %v, %s", l[0], answer, whole(a), again, whole(b))
			}
		}
	}
}
