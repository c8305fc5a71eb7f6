package net

import (
	"math"
	"math/rand"
	"slices"
	"strings"
	"testing"

	"consignor/api"
	"consignor/orders"
	"consignor/samples"
)

// P17.1: a net without messages, each time another one.
func TestNew(t *testing.T) {
	n, other := New(), New()
	if n == nil || other == nil || n == other {
		t.Fatalf("New: %p, %p", n, other)
	}
	carries(t, n)
	deliversNone(t, n, 0)
	is(t, "Send", n.Send(message(1)), true)
	carries(t, n, message(1))
	carries(t, other)
	carries(t, New())
}

// P17.1, P17.3: of nets that are none.
func TestNone(t *testing.T) {
	var none *Net
	for _, n := range []*Net{nil, {}, new(Net), none.Copy(), new(Net).Copy()} {
		for range 2 {
			for _, m := range []api.Msg{{}, message(1), orders.Msg(api.Order{Id: 1, Ref: "r", Sku: "nut", Qty: 1, Amount: 1}, api.DeCharge)} {
				is(t, "of none: Send", n.Send(m), false)
			}
			if l := n.Mail(); len(l) != 0 || n.Copy() != nil {
				t.Errorf("of none: %v, %v", l, n.Copy())
			}
			for _, i := range append(noPlaces(0), 0, 1, 2) {
				deliversNone(t, n, i)
				is(t, "of none: Drop", n.Drop(i), false)
				is(t, "of none: Double", n.Double(i), false)
				is(t, "of none: Turn", n.Turn(i, i), false)
				is(t, "of none: Turn", n.Turn(i, 0), false)
			}
		}
	}
}

// anyMessages are some that may be asked, and such as are none of any sort.
func anyMessages() []api.Msg {
	l := []api.Msg{{}}
	for deed := -1; deed <= 6; deed++ {
		l = append(l, orders.Msg(api.Order{Id: 7, Ref: "r", Sku: "nut", Qty: 3, Amount: 500}, deed), api.Msg{To: api.PaDesk, Key: api.Key{Order: 7, Deed: deed}, Code: api.CoDone})
	}
	for _, n := range []int{-1, 0, 1, 4, 60, 61, 1000, 1 << 32, math.MinInt, math.MaxInt} {
		l = append(l, api.Msg{To: n}, api.Msg{Key: api.Key{Order: n}}, api.Msg{Key: api.Key{Deed: n}}, api.Msg{Qty: n}, api.Msg{Amount: int64(n)}, api.Msg{Code: n})
	}
	for _, sku := range append(samples.Names(), "\x00\xFF", strings.Repeat("x", 3000000)) {
		l = append(l, api.Msg{To: 1, Sku: sku})
	}
	return l
}

// P17.1, P17.2: any message is sent, behind all others, and is told as it was sent; also one that is on its way already.
func TestAnyMessage(t *testing.T) {
	l := anyMessages()
	n := carrying(t, l...)
	for i, m := range l {
		is(t, "Send, again", n.Send(m), true)
		is(t, "Double", n.Double(i), true)
		carries(t, carrying(t, m, m), m, m)
	}
	for at := range n.Mail() {
		want := l[min(at, len(l)-1)]
		if at >= len(l) {
			want = l[(at-len(l))/2]
		}
		delivers(t, n, 0, want)
	}
	carries(t, n)
}

// P17.1: all, in the order sent, as many as there may be.
func TestInOrder(t *testing.T) {
	n := New()
	for i := range 1000 {
		is(t, "Send", n.Send(message(i)), true)
		carries(t, n, upTo(i+1)...)
	}
	for i := range 1000 {
		delivers(t, n, 0, message(i))
	}
	carries(t, n)
	deliversNone(t, n, 0)
}

// P17.1, P17.2: where MaxMail are on their way, nothing is sent, or doubled; all else is done.
func TestFull(t *testing.T) {
	l := upTo(1000)
	n := carrying(t, l...)
	refuses := func() {
		t.Helper()
		ahead := n.Mail()
		for _, m := range []api.Msg{{}, message(0), message(999), message(1000)} {
			is(t, "Send, full", n.Send(m), false)
		}
		for _, i := range []int{0, 1, 500, 998, 999, 1000, -1} {
			is(t, "Double, full", n.Double(i), false)
		}
		carries(t, n, ahead...)
	}
	refuses()
	is(t, "Turn", n.Turn(0, 999), true)
	l[0], l[999] = l[999], l[0]
	carries(t, n, l...)
	refuses()
	for _, i := range []int{0, 999, 500} {
		delivers(t, n, i, l[i])
		l = slices.Delete(l, i, i+1)
		carries(t, n, l...)
		is(t, "Send", n.Send(message(2000+i)), true)
		l = append(l, message(2000+i))
		refuses()
		is(t, "Drop", n.Drop(i), true)
		l = slices.Delete(l, i, i+1)
		carries(t, n, l...)
		at := min(i, 998)
		is(t, "Double", n.Double(at), true)
		l = append(l, l[at])
		carries(t, n, l...)
		refuses()
	}
	// It is how many are on their way that counts, not how many were sent.
	for i := range 3000 {
		delivers(t, n, 0, l[0])
		is(t, "Send", n.Send(message(5000+i)), true)
		l = append(l[1:], message(5000+i))
	}
	carries(t, n, l...)
	refuses()
}

// P17.2: of a place at which there is none: zero and false, and nothing is done.
func TestNoPlace(t *testing.T) {
	for _, many := range []int{0, 1, 2, 3, 4, 5, 8, 999, 1000} {
		l := upTo(many)
		n := carrying(t, l...)
		for _, i := range noPlaces(many) {
			deliversNone(t, n, i)
			is(t, "Drop, none there", n.Drop(i), false)
			is(t, "Double, none there", n.Double(i), false)
			is(t, "Turn, none there", n.Turn(i, i), false)
			for _, k := range append(noPlaces(many), 0, many/2, many-1) {
				is(t, "Turn, none there", n.Turn(i, k), false)
				is(t, "Turn, none there", n.Turn(k, i), false)
			}
			carries(t, n, l...)
		}
	}
}

// P17.2: Deliver and Drop take out the one at the place; the others keep their order.
func TestTakeOut(t *testing.T) {
	for _, many := range []int{1, 2, 3, 4, 5, 8, 33, 1000} {
		for i := range many {
			if many == 1000 && i%111 != 0 {
				continue
			}
			n, other := carrying(t, upTo(many)...), carrying(t, upTo(many)...)
			want := slices.Delete(upTo(many), i, i+1)
			delivers(t, n, i, message(i))
			carries(t, n, want...)
			is(t, "Drop", other.Drop(i), true)
			carries(t, other, want...)
			// What stood behind it has the place now, and what is sent goes behind all.
			is(t, "Send", n.Send(message(7000)), true)
			want = append(want, message(7000))
			carries(t, n, want...)
			delivers(t, n, i, want[i])
			carries(t, n, slices.Delete(want, i, i+1)...)
		}
	}
}

// P17.2: Double sends the same once more, behind all others; the one there stays.
func TestDouble(t *testing.T) {
	for many := 1; many <= 9; many++ {
		for i := range many {
			n := carrying(t, upTo(many)...)
			want := upTo(many)
			for range 3 {
				is(t, "Double", n.Double(i), true)
				want = append(want, message(i))
				carries(t, n, want...)
			}
			// Each of them goes its own way.
			delivers(t, n, i, message(i))
			is(t, "Drop", n.Drop(many), true)
			carries(t, n, append(slices.Delete(upTo(many), i, i+1), message(i), message(i))...)
			is(t, "Double", n.Double(many), true)
			carries(t, n, append(slices.Delete(upTo(many), i, i+1), message(i), message(i), message(i))...)
		}
	}
}

// P17.2: Turn lets those at both places change them, also if it is one place; all others stay.
func TestTurn(t *testing.T) {
	for many := 1; many <= 7; many++ {
		for i := range many {
			for k := range many {
				n, want := carrying(t, upTo(many)...), upTo(many)
				is(t, "Turn", n.Turn(i, k), true)
				want[i], want[k] = message(k), message(i)
				carries(t, n, want...)
				is(t, "Turn, back", n.Turn(i, k), true)
				carries(t, n, upTo(many)...)
				is(t, "Turn, the other way", n.Turn(k, i), true)
				carries(t, n, want...)
				delivers(t, n, i, message(k))
			}
		}
	}
}

// changes are all ways in which a net changes.
func changes() []step {
	return []step{{'s', 0, 0}, {'d', 0, 0}, {'d', 1, 0}, {'d', 3, 0}, {'o', 0, 0}, {'o', 2, 0}, {'o', 3, 0}, {'b', 0, 0}, {'b', 3, 0}, {'t', 0, 3}, {'t', 2, 1}}
}

// P17.3: a copy has the same, and goes on by itself, and so does what it is of.
func TestCopy(t *testing.T) {
	// Lists that come to be in different ways have different room behind them.
	for _, taken := range [][]int{{}, {0}, {4}, {4, 3, 2, 1, 0}, {2, 2}} {
		whole := func() *Net {
			n := carrying(t, upTo(4+len(taken))...)
			for _, i := range taken {
				is(t, "Drop", n.Drop(min(i, len(n.Mail())-1)), true)
			}
			return n
		}
		want := whole().Mail()
		for _, one := range changes() {
			for _, other := range changes() {
				n := whole()
				c := n.Copy()
				if c == nil || c == n {
					t.Fatalf("Copy: %p; of %p", c, n)
				}
				carries(t, c, want...)
				d := c.Copy()
				w, v := &byWords{want}, &byWords{want}
				for i, s := range []step{one, other, one} {
					do(n, s, message(100+i))
					do(w, s, message(100+i))
					carries(t, c, v.list...)
					s = []step{other, one, other}[i]
					do(c, s, message(200+i))
					do(v, s, message(200+i))
					carries(t, n, w.list...)
					carries(t, c, v.list...)
				}
				carries(t, d, want...)
			}
		}
	}
}

// P17.3: copies of a net that is empty, and of one that is full; each has its own MaxMail.
func TestCopyEnds(t *testing.T) {
	n := New()
	c := n.Copy()
	carries(t, c)
	is(t, "Send", c.Send(message(1)), true)
	carries(t, n)
	carries(t, n.Copy())
	carries(t, c.Copy(), message(1))
	n = carrying(t, upTo(1000)...)
	c = n.Copy()
	carries(t, c, upTo(1000)...)
	is(t, "Send, full", c.Send(message(1)), false)
	delivers(t, n, 999, message(999))
	is(t, "Send, full", c.Send(message(1)), false)
	is(t, "Send", n.Send(message(1000)), true)
	carries(t, c, upTo(1000)...)
	for range 1000 {
		is(t, "Drop", n.Drop(0), true)
	}
	carries(t, n)
	carries(t, n.Copy())
	is(t, "Send", n.Copy().Send(message(1)), true)
	carries(t, n)
	carries(t, c, upTo(1000)...)
}

// P17.1, P17.2, P17.4, by the chapter's words: all short lists of some steps.
func TestAllShort(t *testing.T) {
	some := []step{
		{'s', 0, 0}, {'d', 0, 0}, {'d', 1, 0}, {'d', 2, 0}, {'d', -1, 0}, {'o', 0, 0}, {'o', 1, 0}, {'b', 0, 0}, {'b', 1, 0}, {'b', 3, 0},
		{'t', 0, 1}, {'t', 2, 0}, {'t', 1, 2}, {'t', 1, 1}, {'t', 0, -1},
	}
	for _, s := range samples.Texts("\x00\x01\x02\x03\x04\x05\x06\x07\x08\x09\x0A\x0B\x0C\x0D\x0E", 4) {
		l := []step{}
		for _, i := range []byte(s) {
			l = append(l, some[i])
		}
		for many := range 4 {
			agree(t, many, l)
		}
	}
}

// P17.1, P17.2, P17.4, by the chapter's words: long lists, of nets with few messages, and of such as are nearly full.
func TestLong(t *testing.T) {
	r := rand.New(rand.NewSource(17))
	for _, many := range []int{0, 1, 2, 5, 17, 100, 990, 997, 998, 999, 1000} {
		for range 6 {
			b := make([]byte, 3*200)
			r.Read(b)
			agree(t, many, stepsOf(string(b), many))
		}
	}
}

// P17.4: what is sent, and not dropped, is delivered once, and once more for each time it was doubled; nothing else is.
func TestDelivered(t *testing.T) {
	r := rand.New(rand.NewSource(171))
	for range 60 {
		n, want, got, sent := New(), map[api.Msg]int{}, map[api.Msg]int{}, 0
		deliver := func(i int) {
			if m, ok := n.Deliver(i); ok {
				got[m]++
			}
		}
		for range 400 {
			l := n.Mail()
			i, k := r.Intn(len(l)+3)-1, r.Intn(len(l)+3)-1
			there := i >= 0 && i < len(l)
			switch r.Intn(6) {
			case 0, 1:
				n.Send(message(sent))
				want[message(sent)]++
				sent++
			case 2:
				deliver(i)
			case 3:
				n.Turn(i, k)
			case 4:
				if n.Double(i); there {
					want[l[i]]++
				}
			case 5:
				if n.Drop(i); there {
					want[l[i]]--
				}
			}
		}
		for many := len(n.Mail()); many > 0; many-- {
			deliver(r.Intn(many))
		}
		carries(t, n)
		for i := range sent {
			if m := message(i); got[m] != want[m] {
				t.Errorf("%v was delivered %d times; want %d", m, got[m], want[m])
			}
			delete(got, message(i))
		}
		if len(got) != 0 {
			t.Errorf("%v was delivered; it was not sent", got)
		}
	}
}

// P17.1 to P17.4, of any steps: three bytes each; what is sent behind them is any message.
func FuzzAny(f *testing.F) {
	f.Add(0, "\x00\x00\x00\x01\x00\x00\x06\x02\x00\x03\x02\x00", 1, 7, 0, "nut", 4, int64(300), 0, 0, 1)
	f.Add(999, "\x00\x00\x00\x01\x00\x00\x06\x02\x00\x03\x02\x00\x06\x02\x02", 0, 0, 0, "", 0, int64(0), 0, -1, 1000)
	f.Add(3, "\x08\x01\x02\x09\x02\x03\x05\x03\x03", 3, -1, 6, "\xFF", -4, int64(math.MinInt64), 2, math.MinInt, math.MaxInt)
	f.Fuzz(func(t *testing.T, many int, s string, to, order, deed int, sku string, qty int, amount int64, code, i, k int) {
		many = max(min(many, 1000), 0)
		n := agree(t, many, stepsOf(s[:min(len(s), 300)], many))
		ahead, c, w := n.Mail(), n.Copy(), &byWords{n.Mail()}
		m := api.Msg{To: to, Key: api.Key{Order: order, Deed: deed}, Sku: sku, Qty: qty, Amount: amount, Code: code}
		for _, x := range []step{{'s', 0, 0}, {'t', i, k}, {'b', k, 0}, {'o', i, 0}, {'d', k, 0}, {'d', len(w.list) - 1, 0}} {
			told, ok := do(n, x, m)
			if want, may := do(w, x, m); told != want || ok != may {
				t.Errorf("%v: %v, %v; want %v, %v", x, told, ok, want, may)
			}
			carries(t, n, w.list...)
		}
		carries(t, c, ahead...)
	})
}

// The chapter's examples.
func TestExamples(t *testing.T) {
	a, b := message(1), message(2)
	n := carrying(t, a, b)
	is(t, "Double", n.Double(0), true)
	carries(t, n, a, b, a)
	is(t, "Turn", n.Turn(0, 1), true)
	delivers(t, n, 0, b)
	is(t, "Drop", n.Drop(1), true)
	carries(t, n, a)
	deliversNone(t, n, 1)
	is(t, "Turn", n.Turn(0, 1), false)
	carries(t, n, a)
}

// R4: lists that are told are the caller's own.
func TestListsAreTheirOwn(t *testing.T) {
	for many := 1; many <= 9; many++ {
		for _, s := range changes() {
			n := carrying(t, upTo(many)...)
			told, again := n.Mail(), n.Mail()
			told[0] = message(60)
			_ = append(told[:many-1], message(61))
			_ = append(told, message(62))
			slices.Reverse(told)
			carries(t, n, upTo(many)...)
			if !slices.Equal(again, upTo(many)) {
				t.Errorf("Mail, another one changed: %v", again)
			}
			// Nor is what was told changed by what is done behind that, or the net by what was told then.
			do(n, s, message(63))
			if !slices.Equal(again, upTo(many)) {
				t.Errorf("Mail, behind %v: %v", s, again)
			}
			told, again = n.Mail(), n.Mail()
			_ = append(told, message(64))
			clear(told)
			is(t, "Send", n.Send(message(65)), true)
			carries(t, n, append(again, message(65))...)
		}
	}
}

// R2: nets know nothing of each other.
func TestSameAgain(t *testing.T) {
	r := rand.New(rand.NewSource(172))
	a, b, other := New(), New(), New()
	for i := range 500 {
		s := make([]byte, 6)
		r.Read(s)
		l := stepsOf(string(s), 9)
		told, ok := do(a, l[0], message(i))
		do(other, l[1], message(1000+i))
		if again, ok2 := do(b, l[0], message(i)); again != told || ok != ok2 || !slices.Equal(a.Mail(), b.Mail()) {
			t.Fatalf("%v: %v, %v, %v; again %v, %v, %v", l[0], told, ok, a.Mail(), again, ok2, b.Mail())
		}
	}
}
