package rows

import (
	"encoding/binary"
	"fmt"
	"math"
	"math/rand"
	"reflect"
	"slices"
	"strings"
	"testing"

	"consignor/api"
	"consignor/samples"
)

// charge, refund, reserve, release, ship and void are rows of what was done.
func charge(order int, amount int64) api.Row {
	return api.Row{Key: api.Key{Order: order, Deed: api.DeCharge}, Code: api.CoDone, Amount: amount}
}

func refund(order int, amount int64) api.Row {
	return api.Row{Key: api.Key{Order: order, Deed: api.DeRefund}, Code: api.CoDone, Amount: amount}
}

func reserve(order, qty int) api.Row {
	return api.Row{Key: api.Key{Order: order, Deed: api.DeReserve}, Code: api.CoDone, Qty: qty}
}

func release(order, qty int) api.Row {
	return api.Row{Key: api.Key{Order: order, Deed: api.DeRelease}, Code: api.CoDone, Qty: qty}
}

func ship(order, qty int) api.Row {
	return api.Row{Key: api.Key{Order: order, Deed: api.DeShip}, Code: api.CoDone, Qty: qty}
}

func void(order, qty int) api.Row {
	return api.Row{Key: api.Key{Order: order, Deed: api.DeVoid}, Code: api.CoDone, Qty: qty}
}

// refused is the row of a deed that was refused.
func refused(order, deed int) api.Row {
	return api.Row{Key: api.Key{Order: order, Deed: deed}, Code: api.CoRefused}
}

// sample is the chapter's statement.
func sample() api.Statement {
	return api.Statement{Party: api.PaPay, Seq: 5, Rows: []api.Row{charge(3, 300)}}
}

// full is the greatest statement of a party: each key of its, half of them at the greatest number.
func full(party int) api.Statement {
	s := api.Statement{Party: party, Seq: 1 << 30}
	for order := 1; order <= 60; order++ {
		for deed := range 6 {
			if whose(deed) != party {
				continue
			}
			r := api.Row{Key: api.Key{Order: order, Deed: deed}, Code: 1, Qty: 999}
			if party == 0 {
				r.Amount, r.Qty = 1<<40, 0
			}
			if order%2 == 0 {
				r.Code, r.Amount, r.Qty = 2, 0, 0
			}
			s.Rows = append(s.Rows, r)
		}
	}
	return s
}

// some are statements whose bytes are of many forms.
func some() []api.Statement {
	return []api.Statement{
		sample(), {Party: 0, Seq: 1}, {Party: 1, Seq: 1 << 30}, {Party: 2, Seq: 128},
		{Party: 0, Seq: 127, Rows: []api.Row{refused(1, 1), charge(2, 0), charge(3, 1<<40), refund(3, 1<<40), charge(60, 127), refused(60, 4)}},
		{Party: 1, Seq: 1<<30 - 1, Rows: []api.Row{reserve(1, 999), release(1, 999), reserve(2, 0), refused(3, 0), refused(3, 3), reserve(60, 128)}},
		{Party: 2, Seq: 16384, Rows: []api.Row{ship(7, 1), void(7, 1), refused(8, 2), void(9, 127)}},
	}
}

// whose is whose a deed is, by the words; below 0: nobody's.
func whose(deed int) int {
	switch deed {
	case 1, 4:
		return 0
	case 0, 3:
		return 1
	case 2, 5:
		return 2
	}
	return -1
}

// ours tells by the words whether rows may be a party's.
func ours(l []api.Row, party int) bool {
	if party < 0 || party > 2 || len(l) > 400 {
		return false
	}
	last := 0
	for _, r := range l {
		order, deed := r.Key.Order, r.Key.Deed
		if order <= 0 || order > 60 || whose(deed) != party || 10*order+deed <= last {
			return false
		}
		last = 10*order + deed
		qty, amount := int64(999), int64(0)
		if party == 0 {
			qty, amount = 0, 1099511627776
		}
		if r.Code == 2 {
			qty, amount = 0, 0
		}
		if r.Code != 1 && r.Code != 2 || r.Amount < 0 || r.Amount > amount || r.Qty < 0 || int64(r.Qty) > qty {
			return false
		}
	}
	return true
}

// maybe tells by the words whether a statement may be.
func maybe(s api.Statement) bool {
	return s.Seq > 0 && s.Seq <= 1073741824 && ours(s.Rows, s.Party)
}

// came is what an order came to, by the words.
func came(l []api.Row, order int) int64 {
	if !ours(l, 0) {
		return 0
	}
	done := map[api.Key]int64{}
	for _, r := range l {
		if r.Code == 1 {
			done[r.Key] = r.Amount
		}
	}
	return done[api.Key{Order: order, Deed: 1}] - done[api.Key{Order: order, Deed: 4}]
}

// equal tells by the words whether two statements are the same.
func equal(a, b api.Statement) bool {
	return a.Party == b.Party && a.Seq == b.Seq && len(a.Rows) == len(b.Rows) && (len(a.Rows) == 0 || reflect.DeepEqual(a.Rows, b.Rows))
}

// asBytes is a statement's fields as bytes, whether it may be or not.
func asBytes(s api.Statement) string {
	b := []byte{}
	add := func(l ...uint64) {
		for _, n := range l {
			b = binary.AppendUvarint(b, n)
		}
	}
	add(uint64(s.Party), uint64(s.Seq), uint64(len(s.Rows)))
	for _, r := range s.Rows {
		add(uint64(r.Key.Order), uint64(r.Key.Deed), uint64(r.Code), uint64(r.Amount), uint64(r.Qty))
	}
	return string(b)
}

// ofBytes is the statement of some bytes, by the words; false: they are of none that may be.
func ofBytes(s string) (t api.Statement, ok bool) {
	l := []uint64{}
	for b := []byte(s); len(b) > 0; {
		n, size := binary.Uvarint(b)
		if size < 1 {
			return t, false
		}
		l, b = append(l, n), b[size:]
	}
	if len(l) < 3 || len(l)%5 != 3 || uint64(len(l)/5) != l[2] {
		return t, false
	}
	t = api.Statement{Party: int(l[0]), Seq: int(l[1])}
	for i := 3; i < len(l); i += 5 {
		t.Rows = append(t.Rows, api.Row{Key: api.Key{Order: int(l[i]), Deed: int(l[i+1])}, Code: int(l[i+2]), Amount: int64(l[i+3]), Qty: int(l[i+4])})
	}
	if !maybe(t) || asBytes(t) != s {
		return api.Statement{}, false
	}
	return t, true
}

// shown is a text of anything, cut off where it grows too long to be read.
func shown(x any) string { return fmt.Sprintf("%.300s", fmt.Sprint(x)) }

// isPut holds all that is told of any statement against the words, and what is got of its bytes against it.
func isPut(t *testing.T, s api.Statement) {
	t.Helper()
	was := api.Statement{Party: s.Party, Seq: s.Seq, Rows: slices.Clone(s.Rows)}
	want, bytes := maybe(s), ""
	if want {
		bytes = asBytes(s)
	}
	for party := -2; party <= 4; party++ {
		if ok := Check(s.Rows, party); ok != ours(s.Rows, party) {
			t.Errorf("Check(%s, %d): %v; want %v", shown(s.Rows), party, ok, !ok)
		}
	}
	if ok := Check(s.Rows, s.Party); ok != ours(s.Rows, s.Party) {
		t.Errorf("Check(%s, %d): %v; want %v", shown(s.Rows), s.Party, ok, !ok)
	}
	if ok := Valid(s); ok != want {
		t.Errorf("Valid(%s): %v; want %v", shown(s), ok, want)
	}
	if b := Put(s); b != bytes {
		t.Errorf("Put(%s): %.300x; want %.300x", shown(s), b, bytes)
	}
	if !Same(s, was) || !equal(s, was) {
		t.Errorf("Same(%s, %s): %v; it was handed in as it is", shown(s), shown(was), Same(s, was))
	}
	if !want {
		isGot(t, asBytes(s))
		return
	}
	if again, e := Get(bytes); !equal(again, s) || !Same(again, s) || e != 0 {
		t.Errorf("Get(%.300x), that is put of %s: %s, %d", bytes, shown(s), shown(again), e)
	}
}

// isGot holds what is got of any bytes against the words, and what is put of it against them.
func isGot(t *testing.T, s string) {
	t.Helper()
	want, some := ofBytes(s)
	a, e := Get(s)
	if !equal(a, want) || (e == 0) != some || (e != 0 && e != api.ErrForm) {
		t.Errorf("Get(%.300x): %s, %d; want %s, %v", s, shown(a), e, shown(want), some)
	}
	if e == 0 && Put(a) != s {
		t.Errorf("Put(%s), that was got of %.300x: %.300x", shown(a), s, Put(a))
	}
}

// isNone holds that nothing is got of some bytes.
func isNone(t *testing.T, s string) {
	t.Helper()
	if a, e := Get(s); !reflect.DeepEqual(a, api.Statement{}) || e != api.ErrForm {
		t.Errorf("Get(%.300x): %s, %d; want ErrForm", s, shown(a), e)
	}
}

// isNet holds what each order came to against the words, and what is none too.
func isNet(t *testing.T, l []api.Row) {
	t.Helper()
	for _, order := range []int{math.MinInt, -3, -1, math.MaxInt, 1<<32 + 3, 256 + 3} {
		if n := Net(l, order); n != 0 {
			t.Errorf("Net(%s, %d): %d; want 0", shown(l), order, n)
		}
	}
	for order := range 63 {
		if n := Net(l, order); n != came(l, order) {
			t.Errorf("Net(%s, %d): %d; want %d", shown(l), order, n, came(l, order))
		}
	}
}

// sizes are numbers round about where something turns: the ends of what may be, of seven and eight bits, of 32, of int.
func sizes() []int64 {
	l := []int64{math.MinInt64, math.MinInt64 + 1, math.MinInt64 + 3, math.MaxInt64, math.MaxInt64 - 1, -1 << 32, -1<<32 + 1, -1 << 8, 1 << 16, 1<<16 + 1}
	for n := int64(-5); n <= 70; n++ {
		l = append(l, n)
	}
	for _, n := range []int64{127, 255, 300, 400, 999, 1000, 1 << 14, 1 << 21, 1 << 30, 1 << 31, 1 << 32, 1<<32 + 3, 1<<32 + 60, 1<<32 + 999, 1 << 35, 1 << 40, 1<<40 + 2, 1 << 41} {
		l = append(l, n-1, n, n+1)
	}
	return l
}

// P12.1: rows at the ends of what may be, and one beyond each, written out.
func TestCheck(t *testing.T) {
	both := charge(1, 5)
	both.Qty = 1
	other := reserve(1, 5)
	other.Amount = 1
	none, beyond, owing, due := charge(1, 5), charge(1, 5), refused(1, 1), refused(1, 0)
	none.Code, beyond.Code, owing.Amount, due.Qty = 0, 3, 1, 1
	less, counted, priced := refused(1, 1), refused(1, 1), refused(1, 0)
	less.Amount, counted.Qty, priced.Amount = -1, 1, 1
	for _, x := range []struct {
		l     []api.Row
		party int
		want  bool
	}{
		{nil, 0, true}, {nil, 1, true}, {nil, 2, true}, {nil, 3, false}, {nil, -1, false}, {nil, 4, false}, {nil, math.MinInt, false}, {nil, math.MaxInt, false}, {nil, 256, false}, {nil, 1 << 32, false}, {[]api.Row{}, 0, true}, {[]api.Row{}, 3, false},
		{[]api.Row{charge(1, 0)}, 0, true}, {[]api.Row{charge(1, 1<<40)}, 0, true}, {[]api.Row{charge(1, -1)}, 0, false}, {[]api.Row{charge(1, 1<<40+1)}, 0, false}, {[]api.Row{both}, 0, false},
		{[]api.Row{refund(60, 0)}, 0, true}, {[]api.Row{refund(60, 1<<40)}, 0, true}, {[]api.Row{refund(60, 1<<40+1)}, 0, false}, {[]api.Row{refund(60, -1)}, 0, false},
		{[]api.Row{reserve(1, 0)}, 1, true}, {[]api.Row{reserve(1, 999)}, 1, true}, {[]api.Row{reserve(1, -1)}, 1, false}, {[]api.Row{reserve(1, 1000)}, 1, false}, {[]api.Row{other}, 1, false},
		{[]api.Row{release(60, 999)}, 1, true}, {[]api.Row{release(60, 1000)}, 1, false}, {[]api.Row{ship(1, 0)}, 2, true}, {[]api.Row{ship(1, 999)}, 2, true}, {[]api.Row{ship(1, 1000)}, 2, false}, {[]api.Row{void(60, 999)}, 2, true}, {[]api.Row{void(60, -1)}, 2, false},
		{[]api.Row{charge(0, 5)}, 0, false}, {[]api.Row{charge(61, 5)}, 0, false}, {[]api.Row{charge(-1, 5)}, 0, false}, {[]api.Row{reserve(0, 5)}, 1, false}, {[]api.Row{void(61, 5)}, 2, false},
		{[]api.Row{none}, 0, false}, {[]api.Row{beyond}, 0, false}, {[]api.Row{owing}, 0, false}, {[]api.Row{less}, 0, false}, {[]api.Row{counted}, 0, false}, {[]api.Row{due}, 1, false}, {[]api.Row{priced}, 1, false},
		{[]api.Row{refused(1, 1), refused(1, 4)}, 0, true}, {[]api.Row{refused(1, 0), refused(1, 3)}, 1, true}, {[]api.Row{refused(1, 2), refused(1, 5)}, 2, true}, {[]api.Row{refused(1, 6)}, -1, false}, {[]api.Row{refused(1, -1)}, -1, false}, {[]api.Row{refused(1, 6)}, 0, false}, {[]api.Row{refused(1, -1)}, 0, false},
		{[]api.Row{charge(1, 5), refund(1, 5)}, 0, true}, {[]api.Row{refund(1, 5), charge(1, 5)}, 0, false}, {[]api.Row{charge(1, 5), charge(1, 5)}, 0, false}, {[]api.Row{charge(1, 5), charge(1, 6)}, 0, false}, {[]api.Row{charge(1, 5), refused(1, 1)}, 0, false}, {[]api.Row{charge(2, 5), charge(1, 5)}, 0, false}, {[]api.Row{charge(2, 5), refund(1, 5)}, 0, false}, {[]api.Row{refund(1, 5), charge(2, 5)}, 0, true}, {[]api.Row{charge(1, 5), charge(3, 5), charge(2, 5)}, 0, false}, {[]api.Row{charge(1, 5), charge(2, 5), charge(1, 5)}, 0, false},
		{[]api.Row{charge(1, 5), reserve(2, 5)}, 0, false}, {[]api.Row{charge(1, 5), reserve(2, 5)}, 1, false}, {[]api.Row{charge(1, 5), refund(1, 5), {}}, 0, false}, {[]api.Row{{}}, 0, false}, {[]api.Row{{}, charge(1, 5)}, 0, false},
	} {
		if ok := Check(x.l, x.party); ok != x.want {
			t.Errorf("Check(%v, %d): %v; want %v", x.l, x.party, ok, x.want)
		}
		isPut(t, api.Statement{Party: x.party, Seq: 1, Rows: x.l})
		isNet(t, x.l)
	}
}

// P12.1: each deed's row may be its party's alone.
func TestWhose(t *testing.T) {
	for deed, party := range []int{api.PaStore, api.PaPay, api.PaCarry, api.PaStore, api.PaPay, api.PaCarry} {
		for code := -1; code <= 3; code++ {
			r := api.Row{Key: api.Key{Order: 1, Deed: deed}, Code: code}
			for of := -3; of <= 5; of++ {
				if ok, want := Check([]api.Row{r}, of), of == party && (code == 1 || code == 2); ok != want {
					t.Errorf("Check(%v, %d): %v; want %v", r, of, ok, want)
				}
			}
		}
	}
}

// P12.1: a statement's Seq at its ends, and one beyond each.
func TestValid(t *testing.T) {
	for _, x := range []struct {
		seq  int
		want bool
	}{{1, true}, {2, true}, {1 << 30, true}, {1<<30 - 1, true}, {0, false}, {-1, false}, {1<<30 + 1, false}, {math.MinInt, false}, {math.MaxInt, false}, {1<<32 + 1, false}} {
		for _, s := range some() {
			s.Seq = x.seq
			if ok := Valid(s); ok != x.want {
				t.Errorf("Valid(%v): %v; want %v", s, ok, x.want)
			}
			isPut(t, s)
			s.Party = (s.Party + 1) % 3
			if ok := Valid(s); ok != (x.want && len(s.Rows) == 0) {
				t.Errorf("Valid(%v): %v", s, ok)
			}
			s.Party = 3
			if Valid(s) {
				t.Errorf("Valid(%v): true", s)
			}
		}
	}
	if Valid(api.Statement{}) {
		t.Error("Valid of zero")
	}
}

// changes are statements with one thing changed.
func changes(s api.Statement) []api.Statement {
	l := []api.Statement{}
	add := func(change func(s *api.Statement)) {
		other := api.Statement{Party: s.Party, Seq: s.Seq, Rows: slices.Clone(s.Rows)}
		change(&other)
		l = append(l, other)
	}
	add(func(s *api.Statement) { s.Party++ })
	add(func(s *api.Statement) { s.Seq++ })
	add(func(s *api.Statement) { s.Seq += 1 << 32 })
	add(func(s *api.Statement) { s.Rows = append(s.Rows, charge(60, 1)) })
	add(func(s *api.Statement) { s.Rows = append(s.Rows, api.Row{}) })
	add(func(s *api.Statement) { s.Rows = slices.Insert(s.Rows, 0, api.Row{}) })
	for i := range s.Rows {
		add(func(s *api.Statement) { s.Rows[i].Key.Order++ })
		add(func(s *api.Statement) { s.Rows[i].Key.Deed-- })
		add(func(s *api.Statement) { s.Rows[i].Code = 3 - s.Rows[i].Code })
		add(func(s *api.Statement) { s.Rows[i].Amount += 1 << 40 })
		add(func(s *api.Statement) { s.Rows[i].Qty ^= 1 })
		add(func(s *api.Statement) { s.Rows = slices.Delete(s.Rows, i, i+1) })
		if i > 0 {
			add(func(s *api.Statement) { s.Rows[i-1], s.Rows[i] = s.Rows[i], s.Rows[i-1] })
			add(func(s *api.Statement) { s.Rows[i-1] = s.Rows[i] })
		}
	}
	return l
}

// P12.1: statements, those that may not be among them, are the same if nothing differs, whichever stands first.
func TestSame(t *testing.T) {
	l := append(some(), api.Statement{}, api.Statement{Party: -7, Seq: -1, Rows: []api.Row{{}, {}}}, api.Statement{Seq: 5, Rows: make([]api.Row, 10)}, full(0), full(1), full(2))
	for i, s := range l {
		if copied := (api.Statement{Party: s.Party, Seq: s.Seq, Rows: slices.Clone(s.Rows)}); !Same(s, s) || !Same(s, copied) || !Same(copied, s) {
			t.Errorf("Same(%s): false", shown(s))
		}
		for j, other := range l {
			if Same(s, other) != (i == j) {
				t.Errorf("Same(%s, %s): %v", shown(s), shown(other), i != j)
			}
		}
		for _, other := range changes(s) {
			if want := equal(s, other); Same(s, other) != want || Same(other, s) != want {
				t.Errorf("Same(%s, %s): %v", shown(s), shown(other), !want)
			}
		}
	}
	if a, b := (api.Statement{Party: 1, Seq: 2}), (api.Statement{Party: 1, Seq: 2, Rows: []api.Row{}}); !Same(a, b) || !Same(b, a) {
		t.Error("Same: a list that is nil, and one that is empty, are one")
	}
	// One that goes on in the same memory is another one.
	rows := []api.Row{charge(1, 5), charge(2, 5), charge(3, 5)}
	if a, b := (api.Statement{Seq: 1, Rows: rows[:2]}), (api.Statement{Seq: 1, Rows: rows}); Same(a, b) || Same(b, a) {
		t.Error("Same: of a list that goes on")
	}
}

// P12.2: what orders came to, written out.
func TestNet(t *testing.T) {
	const most = int64(1) << 40
	l := []api.Row{charge(1, 900), charge(2, 10), refund(2, 10), charge(3, 10), refund(3, 4), charge(4, 4), refund(4, 10), refund(5, 7), refused(6, 1), refused(7, 1), refund(7, 8), charge(8, 8), refused(8, 4), refused(9, 1), refused(9, 4), charge(10, 0), charge(11, most), charge(12, most), refund(12, 1), refund(60, most)}
	want := map[int]int64{1: 900, 3: 6, 4: -6, 5: -7, 7: -8, 8: 8, 11: most, 12: most - 1, 60: -most}
	for order := -1; order <= 62; order++ {
		if n := Net(l, order); n != want[order] {
			t.Errorf("Net of %d: %d; want %d", order, n, want[order])
		}
	}
	isNet(t, l)
	for i := range l {
		for _, change := range []func(r *api.Row){func(r *api.Row) { r.Code = 0 }, func(r *api.Row) { r.Code = 3 }, func(r *api.Row) { r.Qty = 1 }, func(r *api.Row) { r.Key.Order = 61 }, func(r *api.Row) { r.Key.Deed = 2 }, func(r *api.Row) { r.Amount = most + 1 }, func(r *api.Row) { r.Amount = -1 }} {
			bad := slices.Clone(l)
			change(&bad[i])
			for order := range 62 {
				if n := Net(bad, order); n != 0 {
					t.Errorf("Net(%v, %d): %d; want 0, for the row %d", bad, order, n, i)
				}
			}
		}
	}
	for _, l := range [][]api.Row{nil, {}, {reserve(3, 300)}, {ship(3, 3)}, {charge(3, 300), charge(3, 300)}, {charge(4, 300), charge(3, 300)}, {refund(3, 3), charge(3, 300)}, {charge(3, 300), {}}, {{}}} {
		for order := range 62 {
			if n := Net(l, order); n != 0 {
				t.Errorf("Net(%v, %d): %d; want 0", l, order, n)
			}
		}
	}
}

// P12.3: the bytes of some statements, written out.
func TestPut(t *testing.T) {
	for _, x := range []struct {
		s    api.Statement
		want string
	}{
		{sample(), "\x00\x05\x01\x03\x01\x01\xAC\x02\x00"},
		{api.Statement{Party: 0, Seq: 1}, "\x00\x01\x00"}, {api.Statement{Party: 1, Seq: 127, Rows: []api.Row{}}, "\x01\x7F\x00"}, {api.Statement{Party: 2, Seq: 128}, "\x02\x80\x01\x00"}, {api.Statement{Party: 2, Seq: 1 << 30}, "\x02\x80\x80\x80\x80\x04\x00"},
		{api.Statement{Party: 1, Seq: 7, Rows: []api.Row{reserve(1, 999), release(1, 999), refused(60, 0)}}, "\x01\x07\x03\x01\x00\x01\x00\xE7\x07\x01\x03\x01\x00\xE7\x07\x3C\x00\x02\x00\x00"},
		{api.Statement{Party: 2, Seq: 7, Rows: []api.Row{ship(9, 2), void(9, 2)}}, "\x02\x07\x02\x09\x02\x01\x00\x02\x09\x05\x01\x00\x02"},
		{api.Statement{Party: 0, Seq: 7, Rows: []api.Row{charge(60, 1<<40), refused(60, 4)}}, "\x00\x07\x02\x3C\x01\x01\x80\x80\x80\x80\x80\x20\x00\x3C\x04\x02\x00\x00"},
		{api.Statement{}, ""}, {api.Statement{Party: 3, Seq: 1}, ""}, {api.Statement{Party: -1, Seq: 1}, ""}, {api.Statement{Party: 0, Seq: 0}, ""}, {api.Statement{Party: 0, Seq: 1<<30 + 1}, ""},
		{api.Statement{Party: 1, Seq: 5, Rows: []api.Row{charge(3, 300)}}, ""}, {api.Statement{Party: 0, Seq: 5, Rows: []api.Row{charge(3, 300), charge(3, 300)}}, ""}, {api.Statement{Party: 0, Seq: 5, Rows: []api.Row{{}}}, ""},
	} {
		if b := Put(x.s); b != x.want {
			t.Errorf("Put(%v): %x; want %x", x.s, b, x.want)
		}
		if x.want == "" {
			continue
		}
		if s, e := Get(x.want); !equal(s, x.s) || e != api.OK {
			t.Errorf("Get(%x): %v, %d; want %v", x.want, s, e, x.s)
		}
	}
}

// P12.3: bytes that are of a statement in another form, or of one that may not be.
func TestGet(t *testing.T) {
	for _, s := range []string{
		"", "\x00", "\x00\x05", "\x80", "\xFF", "\x00\x00\x00", "\x03\x05\x00", "\x00\x81\x80\x80\x80\x04\x00",
		// As many rows as are not there, and fewer than there are.
		"\x00\x05\x01", "\x00\x05\x00\x03\x01\x01\xAC\x02\x00", "\x00\x05\x02\x03\x01\x01\xAC\x02\x00", "\x00\x05\x01\x03\x01\x01\xAC\x02\x00\x03\x04\x01\x05\x00",
		// A number that is longer than it need be, in each field.
		"\x80\x00\x05\x01\x03\x01\x01\xAC\x02\x00", "\x00\x85\x00\x01\x03\x01\x01\xAC\x02\x00", "\x00\x05\x81\x00\x03\x01\x01\xAC\x02\x00", "\x00\x05\x01\x83\x00\x01\x01\xAC\x02\x00", "\x00\x05\x01\x03\x81\x00\x01\xAC\x02\x00", "\x00\x05\x01\x03\x01\x81\x00\xAC\x02\x00", "\x00\x05\x01\x03\x01\x01\xAC\x82\x00\x00", "\x00\x05\x01\x03\x01\x01\xAC\x02\x80\x00", "\x00\x05\x80\x00",
		// One beyond what may be, in each field.
		"\x01\x05\x01\x03\x01\x01\xAC\x02\x00", "\x00\x00\x01\x03\x01\x01\xAC\x02\x00", "\x00\x05\x01\x00\x01\x01\xAC\x02\x00", "\x00\x05\x01\x3D\x01\x01\xAC\x02\x00", "\x00\x05\x01\x03\x00\x01\xAC\x02\x00", "\x00\x05\x01\x03\x06\x01\xAC\x02\x00", "\x00\x05\x01\x03\x01\x00\xAC\x02\x00", "\x00\x05\x01\x03\x01\x02\xAC\x02\x00", "\x00\x05\x01\x03\x01\x03\xAC\x02\x00", "\x00\x05\x01\x03\x01\x01\x81\x80\x80\x80\x80\x20\x00", "\x00\x05\x01\x03\x01\x01\xAC\x02\x01", "\x01\x05\x01\x03\x00\x01\x00\xE8\x07", "\x01\x05\x01\x03\x00\x01\x01\x01",
		// Numbers that are in reach only where bits are lost: 2^8, 2^32, 2^63 and 2^64 more than the sample's.
		"\x80\x02\x05\x01\x03\x01\x01\xAC\x02\x00", "\x80\x80\x80\x80\x10\x05\x01\x03\x01\x01\xAC\x02\x00", "\x80\x80\x80\x80\x80\x80\x80\x80\x80\x01\x05\x01\x03\x01\x01\xAC\x02\x00", "\x80\x80\x80\x80\x80\x80\x80\x80\x80\x02\x05\x01\x03\x01\x01\xAC\x02\x00",
		"\x00\x85\x80\x80\x80\x10\x01\x03\x01\x01\xAC\x02\x00", "\x00\x85\x80\x80\x80\x80\x80\x80\x80\x80\x01\x01\x03\x01\x01\xAC\x02\x00", "\x00\x85\x80\x80\x80\x80\x80\x80\x80\x80\x02\x01\x03\x01\x01\xAC\x02\x00",
		"\x00\x05\x81\x02\x03\x01\x01\xAC\x02\x00", "\x00\x05\x81\x80\x80\x80\x10\x03\x01\x01\xAC\x02\x00", "\x00\x05\x81\x80\x80\x80\x80\x80\x80\x80\x80\x01\x03\x01\x01\xAC\x02\x00", "\x00\x05\x81\x80\x80\x80\x80\x80\x80\x80\x80\x02\x03\x01\x01\xAC\x02\x00",
		"\x00\x05\x01\x83\x80\x80\x80\x10\x01\x01\xAC\x02\x00", "\x00\x05\x01\x03\x81\x80\x80\x80\x80\x80\x80\x80\x80\x01\x01\xAC\x02\x00", "\x00\x05\x01\x03\x01\x81\x02\xAC\x02\x00", "\x00\x05\x01\x03\x01\x01\xAC\x82\x80\x80\x80\x80\x80\x80\x80\x01\x00", "\x00\x05\x01\x03\x01\x01\xAC\x82\x80\x80\x80\x80\x80\x80\x80\x02\x00", "\x00\x05\x01\x03\x01\x01\xAC\x02\x80\x80\x80\x80\x10", "\x00\x05\x01\x03\x01\x01\xAC\x02\x80\x80\x80\x80\x80\x80\x80\x80\x80\x01",
		// As many rows as nothing could hold.
		"\x00\x05\x90\x03", "\x00\x05\x91\x03", "\x00\x05\xFF\xFF\xFF\xFF\x0F", "\x00\x05\xFF\xFF\xFF\xFF\xFF\xFF\xFF\xFF\x7F", "\x00\x05\xFF\xFF\xFF\xFF\xFF\xFF\xFF\xFF\xFF\x01", "\x00\x05\xFF\xFF\xFF\xFF\xFF\xFF\xFF\xFF\xFF\x01\x03\x01\x01\xAC\x02\x00",
		strings.Repeat("\xFF", 100000), strings.Repeat("\x00", 100000), strings.Repeat("\x01", 100000), "\x00\x05\x90\x03" + strings.Repeat("\x01", 2000), "\x00\x05\x91\x03" + strings.Repeat("\x01", 2005),
	} {
		isNone(t, s)
	}
	if s, e := Get("\x00\x05\x01\x03\x01\x01\xAC\x02\x00"); !equal(s, sample()) || e != api.OK {
		t.Errorf("Get: %v, %d", s, e)
	}
}

// P12.1 to P12.3: each number of each field of each row, round about where something turns.
func TestEachNumber(t *testing.T) {
	for _, s := range some() {
		isPut(t, s)
		isNet(t, s.Rows)
		for _, n := range sizes() {
			isPut(t, api.Statement{Party: int(n), Seq: s.Seq, Rows: s.Rows})
			isPut(t, api.Statement{Party: s.Party, Seq: int(n), Rows: s.Rows})
			for i := range s.Rows {
				for _, change := range []func(r *api.Row){
					func(r *api.Row) { r.Key.Order = int(n) }, func(r *api.Row) { r.Key.Deed = int(n) }, func(r *api.Row) { r.Code = int(n) }, func(r *api.Row) { r.Amount = n }, func(r *api.Row) { r.Qty = int(n) },
					func(r *api.Row) { r.Amount, r.Qty = n, int(n) }, func(r *api.Row) { r.Amount, r.Qty = 0, int(n) }, func(r *api.Row) { r.Amount, r.Qty = n, 0 },
				} {
					other := api.Statement{Party: s.Party, Seq: s.Seq, Rows: slices.Clone(s.Rows)}
					change(&other.Rows[i])
					isPut(t, other)
					isNet(t, other.Rows)
				}
			}
		}
	}
}

// P12.1, P12.2, P12.4: as many rows as may be, with one moved, one twice, one more, and many more.
func TestFull(t *testing.T) {
	for party := range 3 {
		s := full(party)
		isPut(t, s)
		isNet(t, s.Rows)
		if !Valid(s) || len(s.Rows) != 120 {
			t.Fatalf("Valid, of %d rows: %v", len(s.Rows), Valid(s))
		}
		for i := range s.Rows {
			other := full(party)
			other.Rows[i], other.Rows[(i+1)%120] = other.Rows[(i+1)%120], other.Rows[i]
			isPut(t, other)
			isPut(t, api.Statement{Party: party, Seq: 1, Rows: slices.Insert(full(party).Rows, i, s.Rows[i])})
			isPut(t, api.Statement{Party: party, Seq: 1, Rows: slices.Delete(full(party).Rows, i, i+1)})
			isNet(t, slices.Delete(full(party).Rows, i, i+1))
		}
		for _, many := range []int{399, 400, 401, 16385} {
			rows := full(party).Rows
			for len(rows) < many {
				rows = append(rows, rows[len(rows)-120])
			}
			isPut(t, api.Statement{Party: party, Seq: 1, Rows: rows})
			isPut(t, api.Statement{Party: party, Seq: 1, Rows: make([]api.Row, many)})
		}
	}
}

// P12.4: of what is cut off, or has anything ahead or behind, nothing is got.
func TestGetCutOff(t *testing.T) {
	for _, a := range some() {
		s := Put(a)
		if len(s) < 3 {
			t.Fatalf("Put(%v): %x", a, s)
		}
		for size := range len(s) {
			isNone(t, s[:size])
			isGot(t, s[len(s)-size:])
		}
		for b := range 256 {
			x := string([]byte{byte(b)})
			isNone(t, s+x)
			isNone(t, s+x+s)
			isGot(t, x+s)
		}
		for _, behind := range []string{s, "\x00\x00", "\x80\x00", "\x00\xFF", "\x00\x00\x00\x00\x00", s[3:], strings.Repeat("\x00", 100000), strings.Repeat(s, 1000)} {
			if behind != "" {
				isNone(t, s+behind)
			}
		}
	}
}

// P12.4: a whole statement of each party, cut off at each byte.
func TestGetFullCutOff(t *testing.T) {
	for party := range 3 {
		s := Put(full(party))
		for size := range len(s) {
			isNone(t, s[:size])
		}
		isGot(t, s)
		isNone(t, s+"\x00")
	}
}

// P12.3, P12.4: bytes that differ from a statement's by a byte: less, another, more; and by bits turned over.
func TestGetNear(t *testing.T) {
	for _, a := range some() {
		s := Put(a)
		for place := range len(s) {
			isGot(t, s[:place]+s[place+1:])
			for b := range 256 {
				x := string([]byte{byte(b)})
				isGot(t, s[:place]+x+s[place+1:])
				isGot(t, s[:place]+x+s[place:])
			}
		}
		for _, bits := range samples.Patterns() {
			for place := range max(0, len(s)-3) {
				isGot(t, samples.Turned(s, place, bits))
			}
		}
	}
}

// P12.3, P12.4: all short bytes of some that mean something; those of one statement are among them.
func TestGetShort(t *testing.T) {
	many := 0
	for _, s := range samples.Texts("\x00\x01\x02\x80", 8) {
		isGot(t, s)
		if _, e := Get(s); e == api.OK {
			many++
		}
	}
	// Without rows: a party, a Seq (1, 2; 80 01, 80 02; two 80 and one of these, and so on up to 2^28 and 2^29), 0.
	empty := 3 * (2 * 5)
	// With one: a party and Seq in two bytes, 1, order 1 or 2; of PaPay charge, done, 0, 1 or 2, or refused; of PaStore reserve, of PaCarry ship alike.
	if want := empty + 3*2*2*(3+1); many != want {
		t.Errorf("%d texts are statements; want %d", many, want)
	}
}

// P12.4: rows of which some are left out may be; put, got, and left out again.
func TestLeftOut(t *testing.T) {
	for _, s := range some() {
		for out := range 1 << len(s.Rows) {
			other := api.Statement{Party: s.Party, Seq: s.Seq}
			for i, r := range s.Rows {
				if out>>i&1 == 0 {
					other.Rows = append(other.Rows, r)
				}
			}
			if !Check(other.Rows, s.Party) || !Valid(other) {
				t.Errorf("Valid(%v), of which %b is left out: false", other, out)
			}
			isPut(t, other)
			isNet(t, other.Rows)
		}
	}
}

// P12.3: what is got is the caller's own: neither changes the other one.
func TestOwn(t *testing.T) {
	a, _ := Get(Put(full(0)))
	b, _ := Get(Put(full(0)))
	clear(a.Rows)
	if !equal(b, full(0)) {
		t.Error("Get: a list changed with another one")
	}
}

// anyRow is a row of a party that may be.
func anyRow(r *rand.Rand, k api.Key, party int) api.Row {
	row := api.Row{Key: k, Code: 1 + r.Intn(2)}
	switch {
	case row.Code == 2:
	case party == 0:
		row.Amount = r.Int63n(1<<(1+r.Intn(40))) + int64(r.Intn(2))
	default:
		row.Qty = r.Intn(1000)
	}
	return row
}

// P12.1 to P12.4: statements that may be, of any rows, are put and got; no two are put alike.
func TestAnyStatement(t *testing.T) {
	r := rand.New(rand.NewSource(12))
	by := map[string]api.Statement{}
	for range 3000 {
		s := api.Statement{Party: r.Intn(3), Seq: 1 + r.Intn(1<<(1+r.Intn(30)))}
		most := 1 + r.Intn(60)
		for order := 1; order <= 60; order++ {
			for deed := range 6 {
				if whose(deed) == s.Party && r.Intn(most) == 0 {
					s.Rows = append(s.Rows, anyRow(r, api.Key{Order: order, Deed: deed}, s.Party))
				}
			}
		}
		if !Valid(s) {
			t.Fatalf("Valid(%v): false", s)
		}
		isPut(t, s)
		isNet(t, s.Rows)
		if other, there := by[Put(s)]; there && !equal(other, s) {
			t.Fatalf("%v and %v are put as %x", s, other, Put(s))
		}
		by[Put(s)] = s
	}
}

// P12.1 to P12.4, of any bytes and numbers.
func FuzzAny(f *testing.F) {
	f.Add("\x00\x05\x01\x03\x01\x01\xAC\x02\x00", 0, 5, 3, 1, 1, int64(300), 0)
	f.Add("\x01\x07\x03\x01\x00\x01\x00\xE7\x07\x01\x03\x01\x00\xE7\x07\x3C\x00\x02\x00\x00", 1, 1<<30, 60, 3, 2, int64(0), 999)
	f.Add("\x00\x05\xFF\xFF\xFF\xFF\xFF\xFF\xFF\xFF\xFF\x01", -1, 0, 61, 6, 3, int64(1)<<40+1, 1000)
	f.Fuzz(func(t *testing.T, s string, party, seq, order, deed, code int, amount int64, qty int) {
		isGot(t, s)
		got, _ := Get(s)
		isNet(t, got.Rows)
		for _, row := range []api.Row{
			{Key: api.Key{Order: order, Deed: deed}, Code: code, Amount: amount, Qty: qty},
			{Key: api.Key{Order: order % 64, Deed: deed % 8}, Code: code % 4, Amount: amount % (1 << 41), Qty: qty % 1024},
			{Key: api.Key{Order: order % 64, Deed: deed % 8}, Code: code % 4, Amount: amount % (1 << 41)},
			{Key: api.Key{Order: order % 64, Deed: deed % 8}, Code: code % 4, Qty: qty % 1024},
			{Key: api.Key{Order: order % 64, Deed: deed % 8}, Code: code % 4},
		} {
			for _, l := range [][]api.Row{{row}, append(slices.Clone(got.Rows), row), slices.Insert(slices.Clone(got.Rows), 0, row)} {
				isPut(t, api.Statement{Party: party, Seq: seq, Rows: l})
				isPut(t, api.Statement{Party: party % 4, Seq: seq % (1 << 31), Rows: l})
				isPut(t, api.Statement{Party: got.Party, Seq: got.Seq, Rows: l})
				isNet(t, l)
			}
		}
	})
}

// The chapter's examples.
func TestExamples(t *testing.T) {
	s := sample()
	if b := Put(s); b != "\x00\x05\x01\x03\x01\x01\xAC\x02\x00" {
		t.Errorf("Put: %x", b)
	}
	if a, b, c := Net(s.Rows, 3), Net(append(sample().Rows, refund(3, 300)), 3), Net(s.Rows, 4); a != 300 || b != 0 || c != 0 {
		t.Errorf("Net: %d, %d, %d; want 300, 0, 0", a, b, c)
	}
	none := sample().Rows
	none[0].Code = api.CoNone
	if Check(s.Rows, api.PaStore) || Check(none, api.PaPay) || Check(nil, 3) || !Check(s.Rows, api.PaPay) {
		t.Error("Check")
	}
}
