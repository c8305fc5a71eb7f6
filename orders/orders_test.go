package orders

import (
	"encoding/binary"
	"fmt"
	"math"
	"math/rand"
	"regexp"
	"strings"
	"testing"

	"consignor/api"
	"consignor/samples"
)

// sample is the chapter's order.
var sample = api.Order{Id: 3, Ref: "R-1", Sku: "nut", Qty: 4, Amount: 300}

// parties is whose each deed is, by the deeds' numbers.
var parties = []int{1, 0, 2, 1, 0, 2}

// name is one by the chapter's words; the empty one is told apart ahead of it.
var name = regexp.MustCompile(`^[A-Za-z0-9_-]*$`)

// with is the sample with something changed.
func with(change func(o *api.Order)) api.Order {
	o := sample
	change(&o)
	return o
}

// fault is what is wrong with an order, by the words.
func fault(o api.Order) api.Errno {
	outside := func(n, most int64) bool { return n <= 0 || n > most }
	if outside(int64(o.Id), 60) || outside(int64(o.Qty), 999) || outside(o.Amount, 1099511627776) || len(o.Ref) == 0 || len(o.Sku) == 0 {
		return 2
	}
	if len(o.Ref) > 16 || len(o.Sku) > 8 {
		return 3
	}
	if !name.MatchString(o.Ref) || !name.MatchString(o.Sku) {
		return 2
	}
	return 0
}

// asBytes is an order's fields as bytes, whether it may be or not.
func asBytes(o api.Order) string {
	b := binary.AppendUvarint(nil, uint64(o.Id))
	b = append(binary.AppendUvarint(b, uint64(len(o.Ref))), o.Ref...)
	b = append(binary.AppendUvarint(b, uint64(len(o.Sku))), o.Sku...)
	return string(binary.AppendUvarint(binary.AppendUvarint(b, uint64(o.Qty)), uint64(o.Amount)))
}

// ofBytes is the order of some bytes, by the words; false: they are of none that may be.
func ofBytes(s string) (o api.Order, ok bool) {
	b, ok := []byte(s), true
	number := func() uint64 {
		n, size := binary.Uvarint(b)
		if size < 1 {
			b, ok = nil, false
			return 0
		}
		b = b[size:]
		return n
	}
	text := func() string {
		size := number()
		if size > uint64(len(b)) {
			b, ok = nil, false
			return ""
		}
		t := string(b[:size])
		b = b[size:]
		return t
	}
	o = api.Order{Id: int(number()), Ref: text(), Sku: text(), Qty: int(number()), Amount: int64(number())}
	if !ok || fault(o) != 0 || asBytes(o) != s {
		return api.Order{}, false
	}
	return o, true
}

// asked tells by the words whether a message asks what may be asked.
func asked(m api.Msg) bool {
	if m.Key.Order <= 0 || m.Key.Order > 60 || m.Key.Deed < 0 || m.Key.Deed > 5 || m.Code != 0 || m.To != parties[m.Key.Deed] {
		return false
	}
	o := api.Order{Id: m.Key.Order, Ref: "r", Sku: m.Sku, Qty: m.Qty, Amount: m.Amount}
	if m.To == 0 {
		o.Sku, o.Qty = "s", 1
		return fault(o) == 0 && len(m.Sku) == 0 && m.Qty == 0
	}
	o.Amount = 1
	return fault(o) == 0 && m.Amount == 0
}

// isPut holds all that is told of any order against the words, and what is got of its bytes against it.
func isPut(t *testing.T, o api.Order) {
	t.Helper()
	want, bytes := fault(o), ""
	if want == 0 {
		bytes = asBytes(o)
	}
	if e := Check(o); e != want {
		t.Errorf("Check(%.200v): %d; want %d", o, e, want)
	}
	if s := Put(o); s != bytes {
		t.Errorf("Put(%.200v): %x; want %x", o, s, bytes)
	}
	if want != 0 {
		isGot(t, asBytes(o))
		return
	}
	if again, e := Get(bytes); again != o || e != 0 {
		t.Errorf("Get(%x), that is put of %v: %v, %d", bytes, o, again, e)
	}
}

// isGot holds what is got of any bytes against the words, and what is put of it against them.
func isGot(t *testing.T, s string) {
	t.Helper()
	want, some := ofBytes(s)
	o, e := Get(s)
	if o != want || (e == 0) != some || (e != 0 && e != api.ErrForm) {
		t.Errorf("Get(%.200x): %v, %d; want %v, %v", s, o, e, want, some)
	}
	if e == 0 && Put(o) != s {
		t.Errorf("Put(%v), that was got of %x: %x", o, s, Put(o))
	}
}

// isNone holds that nothing is got of some bytes.
func isNone(t *testing.T, s string) {
	t.Helper()
	if o, e := Get(s); o != (api.Order{}) || e != api.ErrForm {
		t.Errorf("Get(%.200x): %v, %d; want ErrForm", s, o, e)
	}
}

// isAsked holds the message of any order and deed against the words.
func isAsked(t *testing.T, o api.Order, deed int) {
	t.Helper()
	want := api.Msg{}
	if fault(o) == 0 && deed >= 0 && deed <= 5 {
		want = api.Msg{To: parties[deed], Key: api.Key{Order: o.Id, Deed: deed}, Sku: o.Sku, Qty: o.Qty}
		if want.To == 0 {
			want.Sku, want.Qty, want.Amount = "", 0, o.Amount
		}
	}
	m := Msg(o, deed)
	if m != want {
		t.Errorf("Msg(%.200v, %d): %v; want %v", o, deed, m, want)
	}
	if May(m) != (want != api.Msg{}) {
		t.Errorf("May(%v), that is of %.200v and %d: %v", m, o, deed, May(m))
	}
}

// isMay holds whether a message asks what may be asked against the words.
func isMay(t *testing.T, m api.Msg) {
	t.Helper()
	if ok := May(m); ok != asked(m) {
		t.Errorf("May(%.200v): %v; want %v", m, ok, !ok)
	}
}

// sizes are numbers round about where something turns: the ends of what may be, of seven and eight bits, of 32, of int.
func sizes() []int64 {
	l := []int64{math.MinInt64, math.MinInt64 + 1, math.MinInt64 + 3, math.MaxInt64, math.MaxInt64 - 1, -1 << 32, -1<<32 + 4, -1 << 8, 1 << 16, 1<<16 + 4}
	for n := int64(-5); n <= 70; n++ {
		l = append(l, n)
	}
	for _, n := range []int64{127, 255, 300, 999, 1000, 1 << 14, 1 << 21, 1<<32 - 1, 1 << 32, 1<<32 + 3, 1<<32 + 60, 1<<32 + 999, 1 << 35, 1 << 40, 1<<40 + 2, 1 << 41} {
		l = append(l, n-1, n, n+1)
	}
	return l
}

// P11.1: both ends of each number, and of each text's bytes, and one beyond each.
func TestCheck(t *testing.T) {
	for _, x := range []struct {
		o    api.Order
		want api.Errno
	}{
		{sample, api.OK},
		{api.Order{Id: 1, Ref: "a", Sku: "a", Qty: 1, Amount: 1}, api.OK},
		{api.Order{Id: api.MaxOrders, Ref: strings.Repeat("Z", api.MaxRef), Sku: strings.Repeat("9", api.MaxSku), Qty: api.MaxQty, Amount: api.MaxAmount}, api.OK},
		{with(func(o *api.Order) { o.Id = 0 }), api.ErrArg}, {with(func(o *api.Order) { o.Id = 61 }), api.ErrArg}, {with(func(o *api.Order) { o.Id = -1 }), api.ErrArg},
		{with(func(o *api.Order) { o.Qty = 0 }), api.ErrArg}, {with(func(o *api.Order) { o.Qty = 1000 }), api.ErrArg}, {with(func(o *api.Order) { o.Qty = -1 }), api.ErrArg},
		{with(func(o *api.Order) { o.Amount = 0 }), api.ErrArg}, {with(func(o *api.Order) { o.Amount = 1<<40 + 1 }), api.ErrArg}, {with(func(o *api.Order) { o.Amount = -1 }), api.ErrArg},
		{with(func(o *api.Order) { o.Ref = "" }), api.ErrArg}, {with(func(o *api.Order) { o.Sku = "" }), api.ErrArg},
		{with(func(o *api.Order) { o.Ref = strings.Repeat("a", 17) }), api.ErrLong}, {with(func(o *api.Order) { o.Sku = strings.Repeat("a", 9) }), api.ErrLong},
		{with(func(o *api.Order) { o.Ref = "a b" }), api.ErrArg}, {with(func(o *api.Order) { o.Sku = "a b" }), api.ErrArg},
		{with(func(o *api.Order) { o.Sku = "ABCDEFGHIJ" }), api.ErrLong}, {with(func(o *api.Order) { o.Ref = "-_-" }), api.OK}, {with(func(o *api.Order) { o.Sku = "_" }), api.OK},
		{api.Order{}, api.ErrArg}, {api.Order{Id: math.MinInt, Qty: math.MinInt, Amount: math.MinInt64}, api.ErrArg}, {api.Order{Id: math.MaxInt, Qty: math.MaxInt, Amount: math.MaxInt64}, api.ErrArg},
	} {
		if e := Check(x.o); e != x.want {
			t.Errorf("Check(%v): %d; want %d", x.o, e, x.want)
		}
		isPut(t, x.o)
	}
}

// P11.1: of several errors the first one, whichever of the fields each is in.
func TestCheckFirst(t *testing.T) {
	long, bad, both := strings.Repeat("a", 17), "a b", strings.Repeat(" ", 17)
	for _, x := range []struct {
		ref, sku string
		want     api.Errno
	}{
		{long, bad, api.ErrLong}, {bad, long, api.ErrLong}, {long, long, api.ErrLong}, {bad, bad, api.ErrArg}, {both, "nut", api.ErrLong}, {"R-1", both, api.ErrLong}, {both, bad, api.ErrLong}, {bad, both, api.ErrLong},
		{"", long, api.ErrArg}, {long, "", api.ErrArg}, {"", bad, api.ErrArg}, {bad, "", api.ErrArg}, {"", both, api.ErrArg}, {both, "", api.ErrArg}, {"", "", api.ErrArg},
	} {
		o := with(func(o *api.Order) { o.Ref, o.Sku = x.ref, x.sku })
		if e := Check(o); e != x.want {
			t.Errorf("Check(%q, %q): %d; want %d", x.ref, x.sku, e, x.want)
		}
		for _, n := range []int{0, -1, 61, 1000} {
			for _, change := range []func(o *api.Order){func(o *api.Order) { o.Id = n }, func(o *api.Order) { o.Qty = n * 1000 }, func(o *api.Order) { o.Amount = int64(n) << 40 }} {
				o := with(change)
				o.Ref, o.Sku = x.ref, x.sku
				if e := Check(o); e != api.ErrArg {
					t.Errorf("Check(%v): %d; want ErrArg, ahead of what is too long", o, e)
				}
			}
		}
	}
}

// P11.1: each byte, at each place of a name.
func TestNames(t *testing.T) {
	for b := range 256 {
		x := string([]byte{byte(b)})
		may := strings.Contains("ABCDEFGHIJKLMNOPQRSTUVWXYZabcdefghijklmnopqrstuvwxyz0123456789-_", x)
		for place := range api.MaxRef {
			ref := strings.Repeat("r", place) + x + strings.Repeat("r", api.MaxRef-1-place)
			if e := Check(with(func(o *api.Order) { o.Ref = ref })); (e == api.OK) != may || (e != api.OK && e != api.ErrArg) {
				t.Errorf("Check, of Ref %q: %d; want %v", ref, e, may)
			}
		}
		for place := range api.MaxSku {
			sku := strings.Repeat("s", place) + x + strings.Repeat("s", api.MaxSku-1-place)
			if e := Check(with(func(o *api.Order) { o.Sku = sku })); (e == api.OK) != may || (e != api.OK && e != api.ErrArg) {
				t.Errorf("Check, of Sku %q: %d; want %v", sku, e, may)
			}
			if ok := May(api.Msg{To: api.PaCarry, Key: api.Key{Order: 1, Deed: api.DeShip}, Sku: sku, Qty: 1}); ok != may {
				t.Errorf("May, of Sku %q: %v; want %v", sku, ok, may)
			}
		}
	}
}

// P11.1, P11.3: all names, nearly names and others, each with each; bytes count, not runes.
func TestEachName(t *testing.T) {
	for _, ref := range samples.Names() {
		for _, sku := range samples.Names() {
			isPut(t, with(func(o *api.Order) { o.Ref, o.Sku = ref, sku }))
		}
	}
}

// P11.1: runes that are none of the chapter's letters, whatever their lowest bytes.
func TestRunes(t *testing.T) {
	for r := rune(0x80); r <= 0x10FFFF; r += 1 + r>>12 {
		x := string(r)
		if e := Check(with(func(o *api.Order) { o.Ref = x })); e != api.ErrArg {
			t.Errorf("Check, of Ref %q: %d; want ErrArg", x, e)
		}
		if May(api.Msg{To: api.PaStore, Key: api.Key{Order: 1}, Sku: x, Qty: 1}) {
			t.Errorf("May, of Sku %q", x)
		}
	}
}

// P11.1, P11.3: each number of each field, round about where something turns.
func TestEachNumber(t *testing.T) {
	for _, n := range sizes() {
		isPut(t, with(func(o *api.Order) { o.Id = int(n) }))
		isPut(t, with(func(o *api.Order) { o.Qty = int(n) }))
		isPut(t, with(func(o *api.Order) { o.Amount = n }))
		isPut(t, api.Order{Id: int(n), Ref: "a", Sku: "b", Qty: int(n), Amount: n})
	}
	for n := range 1002 {
		isPut(t, with(func(o *api.Order) { o.Id, o.Qty = n%62, n }))
	}
	for i := range 64 {
		for _, n := range []int64{-1, 0, 1} {
			isPut(t, with(func(o *api.Order) { o.Amount = 1<<i + n }))
		}
	}
}

// P11.1: the bytes of some orders, written out.
func TestPut(t *testing.T) {
	for _, x := range []struct {
		o    api.Order
		want string
	}{
		{sample, "\x03\x03R-1\x03nut\x04\xAC\x02"},
		{api.Order{Id: 1, Ref: "a", Sku: "b", Qty: 1, Amount: 1}, "\x01\x01a\x01b\x01\x01"},
		{api.Order{Id: 60, Ref: "0123456789-_abcd", Sku: "ABCDEFGH", Qty: 999, Amount: 1 << 40}, "\x3C\x100123456789-_abcd\x08ABCDEFGH\xE7\x07\x80\x80\x80\x80\x80\x20"},
		{api.Order{Id: 9, Ref: "z", Sku: "-", Qty: 127, Amount: 127}, "\x09\x01z\x01-\x7F\x7F"},
		{api.Order{Id: 9, Ref: "z", Sku: "-", Qty: 128, Amount: 128}, "\x09\x01z\x01-\x80\x01\x80\x01"},
		{with(func(o *api.Order) { o.Id = 0 }), ""}, {with(func(o *api.Order) { o.Id = 61 }), ""}, {with(func(o *api.Order) { o.Qty = 1000 }), ""}, {with(func(o *api.Order) { o.Amount = 1<<40 + 1 }), ""},
		{with(func(o *api.Order) { o.Ref = "" }), ""}, {with(func(o *api.Order) { o.Sku = "" }), ""}, {with(func(o *api.Order) { o.Ref = "abcdefghijklmnopq" }), ""}, {with(func(o *api.Order) { o.Sku = "abcdefghi" }), ""}, {with(func(o *api.Order) { o.Sku = "ü" }), ""}, {api.Order{}, ""},
	} {
		if s := Put(x.o); s != x.want {
			t.Errorf("Put(%v): %x; want %x", x.o, s, x.want)
		}
	}
}

// P11.1, P11.3: bytes that are of an order in another form, or of one that may not be.
func TestGet(t *testing.T) {
	for _, s := range []string{
		"", "\x00", "\x80", "\x03", "\xFF", "\x03\x03R-1", "\x03\x03R-1\x03nut", "\x03\x03R-1\x03nut\x04",
		// A number that is longer than it need be, in each field.
		"\x83\x00\x03R-1\x03nut\x04\xAC\x02", "\x03\x83\x00R-1\x03nut\x04\xAC\x02", "\x03\x03R-1\x83\x00nut\x04\xAC\x02", "\x03\x03R-1\x03nut\x84\x00\xAC\x02", "\x03\x03R-1\x03nut\x04\xAC\x82\x00",
		// Zero, and one beyond what may be.
		"\x00\x03R-1\x03nut\x04\xAC\x02", "\x3D\x03R-1\x03nut\x04\xAC\x02", "\x03\x00\x03nut\x04\xAC\x02", "\x03\x03R-1\x00\x04\xAC\x02", "\x03\x03R-1\x03nut\x00\xAC\x02", "\x03\x03R-1\x03nut\xE8\x07\xAC\x02", "\x03\x03R-1\x03nut\x04\x00", "\x03\x03R-1\x03nut\x04\x81\x80\x80\x80\x80\x20",
		"\x03\x11abcdefghijklmnopq\x03nut\x04\xAC\x02", "\x03\x03R-1\x09abcdefghi\x04\xAC\x02", "\x03\x03R 1\x03nut\x04\xAC\x02", "\x03\x03R-1\x03n\xC3\xBC\x04\xAC\x02",
		// Numbers that are in reach only where bits are lost: 2^8, 2^32, 2^63 and 2^64 more than the sample's.
		"\x83\x02\x03R-1\x03nut\x04\xAC\x02", "\x83\x80\x80\x80\x10\x03R-1\x03nut\x04\xAC\x02", "\x83\x80\x80\x80\x80\x80\x80\x80\x80\x01\x03R-1\x03nut\x04\xAC\x02", "\x83\x80\x80\x80\x80\x80\x80\x80\x80\x02\x03R-1\x03nut\x04\xAC\x02",
		"\x03\x03R-1\x03nut\x84\x80\x80\x80\x10\xAC\x02", "\x03\x03R-1\x03nut\x84\x80\x80\x80\x80\x80\x80\x80\x80\x01\xAC\x02", "\x03\x03R-1\x03nut\x84\x80\x80\x80\x80\x80\x80\x80\x80\x02\xAC\x02",
		"\x03\x03R-1\x03nut\x04\xAC\x82\x80\x80\x80\x80\x80\x80\x80\x01", "\x03\x03R-1\x03nut\x04\xAC\x82\x80\x80\x80\x80\x80\x80\x80\x02",
		// Lengths beyond what is there, and beyond int.
		"\x03\x7FR-1\x03nut\x04\xAC\x02", "\x03\x03R-1\x7Fnut\x04\xAC\x02", "\x03\xFF\xFF\xFF\xFF\xFF\xFF\xFF\xFF\xFF\x01R-1\x03nut\x04\xAC\x02", "\x03\x03R-1\xFF\xFF\xFF\xFF\xFF\xFF\xFF\xFF\xFF\x01nut\x04\xAC\x02",
		strings.Repeat("\xFF", 100000), strings.Repeat("\x00", 100000), strings.Repeat("\x01", 100000),
	} {
		isNone(t, s)
	}
	if o, e := Get("\x03\x03R-1\x03nut\x04\xAC\x02"); o != sample || e != api.OK {
		t.Errorf("Get: %v, %d", o, e)
	}
}

// some are orders whose bytes are of many forms.
func some() []api.Order {
	return []api.Order{
		sample, {Id: 1, Ref: "a", Sku: "b", Qty: 1, Amount: 1}, {Id: 60, Ref: "0123456789-_abcd", Sku: "ABCDEFGH", Qty: 999, Amount: 1 << 40},
		{Id: 45, Ref: "-", Sku: "AA", Qty: 128, Amount: 1<<40 - 1}, {Id: 48, Ref: "00", Sku: "0", Qty: 48, Amount: 48},
	}
}

// P11.3: of what is cut off, or has anything ahead or behind, nothing is got.
func TestGetCutOff(t *testing.T) {
	for _, o := range some() {
		s := Put(o)
		if len(s) < 7 {
			t.Fatalf("Put(%v): %x", o, s)
		}
		for size := range len(s) {
			isNone(t, s[:size])
			isGot(t, s[len(s)-size:])
		}
		for b := range 256 {
			x := string([]byte{byte(b)})
			isNone(t, s+x)
			isNone(t, s+x+s)
			isGot(t, x+s)
		}
		for _, behind := range []string{s, "\x00\x00", "\x80\x00", "\x00\xFF", strings.Repeat("\x00", 100000), strings.Repeat(s, 1000)} {
			isNone(t, s+behind)
		}
	}
}

// P11.1, P11.3: bytes that differ from an order's by a byte: less, another, more; and by bits turned over.
func TestGetNear(t *testing.T) {
	for _, o := range some() {
		s := Put(o)
		for place := range len(s) {
			isGot(t, s[:place]+s[place+1:])
			for b := range 256 {
				x := string([]byte{byte(b)})
				isGot(t, s[:place]+x+s[place+1:])
				isGot(t, s[:place]+x+s[place:])
			}
		}
		for _, bits := range samples.Patterns() {
			for place := range len(s) - 3 {
				isGot(t, samples.Turned(s, place, bits))
			}
		}
	}
}

// P11.1, P11.3: all short bytes of some that mean something; those of one order are among them.
func TestGetShort(t *testing.T) {
	many := 0
	for _, s := range samples.Texts("\x00\x01\x02aZ\x80", 7) {
		isGot(t, s)
		if _, e := Get(s); e == api.OK {
			many++
		}
	}
	// Id, Qty and Amount are 1, 2, Z (90, but of Id) or a (97, but of Id); Ref and Sku a or Z, all in seven bytes.
	if want := 2 * 2 * 2 * 4 * 4; many != want {
		t.Errorf("%d texts are orders; want %d", many, want)
	}
}

// P11.2, P11.3: each deed, and what is none, of orders at the ends of what may be and beyond.
func TestMsg(t *testing.T) {
	for _, n := range sizes() {
		for _, o := range some() {
			isAsked(t, o, int(n))
		}
		for deed := -1; deed <= 6; deed++ {
			isAsked(t, with(func(o *api.Order) { o.Id = int(n) }), deed)
			isAsked(t, with(func(o *api.Order) { o.Qty = int(n) }), deed)
			isAsked(t, with(func(o *api.Order) { o.Amount = n }), deed)
		}
	}
	for _, s := range samples.Names() {
		for deed := -1; deed <= 6; deed++ {
			isAsked(t, with(func(o *api.Order) { o.Ref = s }), deed)
			isAsked(t, with(func(o *api.Order) { o.Sku = s }), deed)
		}
	}
}

// P11.2: each deed's message, written out.
func TestMsgs(t *testing.T) {
	store, pay, carry := api.Msg{To: api.PaStore, Sku: "nut", Qty: 4}, api.Msg{To: api.PaPay, Amount: 300}, api.Msg{To: api.PaCarry, Sku: "nut", Qty: 4}
	for deed, want := range map[int]api.Msg{api.DeReserve: store, api.DeCharge: pay, api.DeShip: carry, api.DeRelease: store, api.DeRefund: pay, api.DeVoid: carry} {
		want.Key = api.Key{Order: 3, Deed: deed}
		if m := Msg(sample, deed); m != want {
			t.Errorf("Msg(%d): %v; want %v", deed, m, want)
		}
		if !May(want) {
			t.Errorf("May(%v): false", want)
		}
	}
	for _, deed := range []int{-1, 6, 7, 256, 1 << 32, math.MinInt, math.MaxInt} {
		if m := Msg(sample, deed); m != (api.Msg{}) {
			t.Errorf("Msg(%d): %v; want none", deed, m)
		}
	}
	for _, o := range []api.Order{{}, with(func(o *api.Order) { o.Ref = "" }), with(func(o *api.Order) { o.Qty = 1000 }), with(func(o *api.Order) { o.Sku = "a b" }), with(func(o *api.Order) { o.Amount = 0 })} {
		for deed := range 6 {
			if m := Msg(o, deed); m != (api.Msg{}) {
				t.Errorf("Msg(%v, %d): %v; want none", o, deed, m)
			}
		}
	}
}

// P11.2: a message that may be asked, with one thing changed.
func TestMay(t *testing.T) {
	for deed := range 6 {
		m := Msg(sample, deed)
		if !May(m) {
			t.Errorf("May(%v): false", m)
		}
		for _, n := range sizes() {
			for _, change := range []func(m *api.Msg){
				func(m *api.Msg) { m.To = int(n) }, func(m *api.Msg) { m.Key.Order = int(n) }, func(m *api.Msg) { m.Key.Deed = int(n) }, func(m *api.Msg) { m.Qty = int(n) }, func(m *api.Msg) { m.Amount = n }, func(m *api.Msg) { m.Code = int(n) },
				func(m *api.Msg) { m.Key.Deed, m.To = int(n), (m.To+1)%3 }, func(m *api.Msg) { m.Qty, m.Amount = int(n), n },
			} {
				other := m
				change(&other)
				isMay(t, other)
			}
		}
		for _, s := range samples.Names() {
			other := m
			other.Sku = s
			isMay(t, other)
		}
	}
	for _, m := range []api.Msg{{}, {To: -1, Key: api.Key{Order: 1, Deed: -1}, Sku: "a", Qty: 1}, {To: -1, Key: api.Key{Order: 1, Deed: 6}, Sku: "a", Qty: 1}, {To: api.PaDesk, Key: api.Key{Order: 1, Deed: api.DeShip}, Code: api.CoDone}} {
		if May(m) {
			t.Errorf("May(%v): true", m)
		}
	}
}

// P11.2: each of what may be, and one beyond, written out.
func TestMayEnds(t *testing.T) {
	charge := func(amount int64) api.Msg {
		return api.Msg{To: api.PaPay, Key: api.Key{Order: 60, Deed: api.DeRefund}, Amount: amount}
	}
	ship := func(sku string, qty int) api.Msg {
		return api.Msg{To: api.PaCarry, Key: api.Key{Order: 1, Deed: api.DeVoid}, Sku: sku, Qty: qty}
	}
	for _, x := range []struct {
		m    api.Msg
		want bool
	}{
		{charge(1), true}, {charge(1 << 40), true}, {charge(0), false}, {charge(1<<40 + 1), false}, {charge(-1), false},
		{ship("a", 1), true}, {ship("a", 999), true}, {ship("abcdefgh", 1), true}, {ship("a", 0), false}, {ship("a", 1000), false}, {ship("a", -1), false}, {ship("", 1), false}, {ship("abcdefghi", 1), false}, {ship("a b", 1), false}, {ship("ü", 1), false},
		{api.Msg{To: api.PaPay, Key: api.Key{Order: 1, Deed: api.DeCharge}, Sku: "a", Amount: 1}, false}, {api.Msg{To: api.PaPay, Key: api.Key{Order: 1, Deed: api.DeCharge}, Qty: 1, Amount: 1}, false},
		{api.Msg{To: api.PaCarry, Key: api.Key{Order: 1, Deed: api.DeShip}, Sku: "a", Qty: 1, Amount: 1}, false}, {api.Msg{To: api.PaStore, Key: api.Key{Order: 1, Deed: api.DeShip}, Sku: "a", Qty: 1}, false},
		{api.Msg{To: api.PaCarry, Key: api.Key{Order: 1, Deed: api.DeShip}, Sku: "a", Qty: 1, Code: api.CoDone}, false}, {api.Msg{To: api.PaPay, Key: api.Key{Order: 1, Deed: api.DeCharge}, Amount: 1, Code: api.CoRefused}, false},
		{api.Msg{To: api.PaDesk, Key: api.Key{Order: 1, Deed: api.DeShip}, Sku: "a", Qty: 1}, false}, {api.Msg{To: api.PaCarry, Key: api.Key{Order: 0, Deed: api.DeShip}, Sku: "a", Qty: 1}, false}, {api.Msg{To: api.PaCarry, Key: api.Key{Order: 61, Deed: api.DeShip}, Sku: "a", Qty: 1}, false},
	} {
		if ok := May(x.m); ok != x.want {
			t.Errorf("May(%v): %v; want %v", x.m, ok, x.want)
		}
	}
}

// P11.3: orders that may be, of any fields, are put and got, and each deed of theirs may be asked.
func TestAnyOrder(t *testing.T) {
	const letters = "ABCDEFGHIJKLMNOPQRSTUVWXYZabcdefghijklmnopqrstuvwxyz0123456789-_"
	r := rand.New(rand.NewSource(11))
	word := func(most int) string {
		b := make([]byte, 1+r.Intn(most))
		for i := range b {
			b[i] = letters[r.Intn(len(letters))]
		}
		return string(b)
	}
	by := map[string]api.Order{}
	for range 20000 {
		o := api.Order{Id: 1 + r.Intn(60), Ref: word(16), Sku: word(8), Qty: 1 + r.Intn(999), Amount: 1 + r.Int63n(1<<(1+r.Intn(40)))}
		isPut(t, o)
		for deed := range 6 {
			isAsked(t, o, deed)
		}
		if other, there := by[Put(o)]; there && other != o || Put(o) == "" {
			t.Fatalf("%v and %v are put as %x", o, other, Put(o))
		}
		by[Put(o)] = o
	}
}

// P11.1 to P11.3, of any texts and numbers.
func FuzzAny(f *testing.F) {
	f.Add("\x03\x03R-1\x03nut\x04\xAC\x02", "R-1", "nut", 3, 4, int64(300), 1, 0, 0)
	f.Add("\x83\x00\x03R-1", "a b", "ü", 61, 1000, int64(1)<<40, 6, -1, 1)
	f.Add("", "", "abcdefghi", math.MinInt, math.MaxInt, int64(math.MinInt64), math.MaxInt, 3, 2)
	f.Fuzz(func(t *testing.T, s, ref, sku string, id, qty int, amount int64, deed, to, code int) {
		isGot(t, s)
		for _, o := range []api.Order{
			{Id: id, Ref: ref, Sku: sku, Qty: qty, Amount: amount},
			{Id: id % 64, Ref: fmt.Sprintf("%.17s", ref), Sku: fmt.Sprintf("%.9s", sku), Qty: qty % 1024, Amount: amount % (1 << 41)},
		} {
			isPut(t, o)
			isGot(t, asBytes(o))
			isAsked(t, o, deed)
			isAsked(t, o, deed%8)
			for _, m := range []api.Msg{Msg(o, deed%8), {Key: api.Key{Order: o.Id, Deed: deed % 8}, Sku: o.Sku, Qty: o.Qty}, {Key: api.Key{Order: o.Id, Deed: deed % 8}, Amount: o.Amount}, {Sku: sku, Qty: qty, Amount: amount}} {
				isMay(t, m)
				m.To, m.Code = to%4, code%3
				isMay(t, m)
			}
		}
	})
}

// The chapter's examples.
func TestExamples(t *testing.T) {
	if s := Put(sample); s != "\x03\x03R-1\x03nut\x04\xAC\x02" {
		t.Errorf("Put: %x", s)
	}
	if m, want := Msg(sample, api.DeCharge), (api.Msg{To: api.PaPay, Key: api.Key{Order: 3, Deed: api.DeCharge}, Amount: 300}); m != want {
		t.Errorf("Msg of DeCharge: %v; want %v", m, want)
	}
	if m, want := Msg(sample, api.DeRelease), (api.Msg{To: api.PaStore, Key: api.Key{Order: 3, Deed: api.DeRelease}, Sku: "nut", Qty: 4}); m != want {
		t.Errorf("Msg of DeRelease: %v; want %v", m, want)
	}
	ref, sku, qty := with(func(o *api.Order) { o.Ref = "a b" }), with(func(o *api.Order) { o.Sku = "123456789" }), with(func(o *api.Order) { o.Qty = 0 })
	if a, b, c := Check(ref), Check(sku), Check(qty); a != api.ErrArg || b != api.ErrLong || c != api.ErrArg {
		t.Errorf("Check: %d, %d, %d; want ErrArg, ErrLong, ErrArg", a, b, c)
	}
}
