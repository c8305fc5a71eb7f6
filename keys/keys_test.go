package keys

import (
	"fmt"
	"math"
	"math/rand"
	"slices"
	"strings"
	"testing"

	"consignor/api"
	"consignor/samples"
)

// The chapter's words, by the deeds' numbers: each deed's word, its party, and the deed that it undoes (below 0: none).
var chapter = []struct {
	word           string
	party, undoing int
}{
	{"reserve", 1, -1}, {"charge", 0, -1}, {"ship", 2, -1}, {"release", 1, 0}, {"refund", 0, 1}, {"void", 2, 2},
}

// numbers are such as orders and deeds have, all that may be, those round about, and such as would be one of them in fewer bits.
func numbers() []int {
	l := []int{math.MinInt, math.MinInt + 1, math.MinInt + 3, math.MaxInt, math.MaxInt - 1, -1 << 32, -1 << 8, 1 << 16, 1<<32 - 1, 1 << 32, 1<<32 + 1, 1<<32 + 3, 1<<32 + 60, 1<<63 - 60, 255, 256, 257, 259, 261, 316, 65537}
	for n := -65; n <= 130; n++ {
		l = append(l, n)
	}
	return l
}

// texts are those of all keys that may be.
func texts() map[string]api.Key {
	l := map[string]api.Key{}
	for order := 1; order <= 60; order++ {
		for deed, x := range chapter {
			l[fmt.Sprintf("%d-%s", order, x.word)] = api.Key{Order: order, Deed: deed}
		}
	}
	return l
}

// mayBe tells by the chapter's words whether a key may be.
func mayBe(k api.Key) bool {
	return k.Order > 0 && k.Order < 61 && (k.Deed == 0 || k.Deed == 1 || k.Deed == 2 || k.Deed == 3 || k.Deed == 4 || k.Deed == 5)
}

// isGot holds what is got of any text against all that are put.
func isGot(t *testing.T, s string, all map[string]api.Key) {
	t.Helper()
	want, some := all[s]
	k, ok := Get(s)
	if k != want || ok != some {
		t.Errorf("Get(%.60q): %v, %v; want %v, %v", s, k, ok, want, some)
	}
	if ok && Put(k) != s {
		t.Errorf("Put(%v), that was got of %q: %q", k, s, Put(k))
	}
}

// isPut holds what is put of any key against the words, and what is got of it against the key.
func isPut(t *testing.T, k api.Key, all map[string]api.Key) {
	t.Helper()
	s := Put(k)
	if Check(k) != mayBe(k) || (s != "") != mayBe(k) {
		t.Errorf("Check(%v): %v; Put: %q; want %v", k, Check(k), s, mayBe(k))
	}
	if s == "" {
		return
	}
	if want, some := all[s]; want != k || !some {
		t.Errorf("Put(%v): %q, that is of %v, %v", k, s, want, some)
	}
	if again, ok := Get(s); again != k || !ok {
		t.Errorf("Get(%q), that was put of %v: %v, %v", s, k, again, ok)
	}
}

// P10.1: both ends of what may be, and one beyond each.
func TestCheck(t *testing.T) {
	for _, x := range []struct {
		k    api.Key
		want bool
	}{
		{api.Key{Order: 1}, true}, {api.Key{Order: 60}, true}, {api.Key{Order: 1, Deed: api.DeVoid}, true}, {api.Key{Order: api.MaxOrders, Deed: api.DeVoid}, true}, {api.Key{Order: 7, Deed: api.DeRelease}, true},
		{api.Key{}, false}, {api.Key{Order: 61}, false}, {api.Key{Order: 1, Deed: -1}, false}, {api.Key{Order: 1, Deed: 6}, false}, {api.Key{Order: -1, Deed: 1}, false}, {api.Key{Deed: 5}, false}, {api.Key{Order: 61, Deed: 5}, false},
		{api.Key{Order: math.MinInt, Deed: math.MinInt}, false}, {api.Key{Order: math.MaxInt, Deed: math.MaxInt}, false},
	} {
		if ok := Check(x.k); ok != x.want {
			t.Errorf("Check(%v): %v; want %v", x.k, ok, x.want)
		}
	}
}

// P10.1, P10.2, P10.3: all orders and deeds that may be, with all round about.
func TestEachKey(t *testing.T) {
	all, many := texts(), 0
	for _, order := range numbers() {
		for _, deed := range numbers() {
			k := api.Key{Order: order, Deed: deed}
			isPut(t, k, all)
			if Check(k) {
				many++
			}
		}
	}
	if many != 60*6 || len(all) != many {
		t.Errorf("%d keys may be, of %d texts; want %d", many, len(all), 60*6)
	}
}

// P10.1: of each deed its party, word, and what it undoes; of what is no deed none.
func TestDeeds(t *testing.T) {
	for _, deed := range numbers() {
		word, party, undoing, undoes := "", -1, 0, false
		if deed >= 0 && deed <= 5 {
			word, party = chapter[deed].word, chapter[deed].party
			undoing, undoes = max(chapter[deed].undoing, 0), chapter[deed].undoing >= 0
		}
		if n := Party(deed); n != party {
			t.Errorf("Party(%d): %d; want %d", deed, n, party)
		}
		if s := Word(deed); s != word {
			t.Errorf("Word(%d): %q; want %q", deed, s, word)
		}
		if which, ok := Undoes(deed); which != undoing || ok != undoes {
			t.Errorf("Undoes(%d): %d, %v; want %d, %v", deed, which, ok, undoing, undoes)
		}
	}
}

// P10.1: the parties and the words by api's names.
func TestNames(t *testing.T) {
	for _, x := range []struct {
		deed, party int
		word        string
	}{
		{api.DeReserve, api.PaStore, "reserve"}, {api.DeRelease, api.PaStore, "release"}, {api.DeCharge, api.PaPay, "charge"},
		{api.DeRefund, api.PaPay, "refund"}, {api.DeShip, api.PaCarry, "ship"}, {api.DeVoid, api.PaCarry, "void"},
	} {
		if party, word := Party(x.deed), Word(x.deed); party != x.party || word != x.word {
			t.Errorf("%d: %d, %q; want %d, %q", x.deed, party, word, x.party, x.word)
		}
		if deed, ok := Deed(x.word); deed != x.deed || !ok {
			t.Errorf("Deed(%q): %d, %v; want %d, true", x.word, deed, ok, x.deed)
		}
	}
	for deed, undone := range map[int]int{api.DeRelease: api.DeReserve, api.DeRefund: api.DeCharge, api.DeVoid: api.DeShip} {
		if which, ok := Undoes(deed); which != undone || !ok {
			t.Errorf("Undoes(%d): %d, %v; want %d, true", deed, which, ok, undone)
		}
	}
}

// near are texts that differ from one by little: a byte less, another one, one more, other letters, twice.
func near(s string) []string {
	l := []string{"", s + s, strings.ToUpper(s), strings.ToTitle(s[:1]) + s[1:], s + "-", "-" + s, s + "\x00" + s, strings.Repeat(s, 5000), s + strings.Repeat(" ", 1<<16)}
	for at := range len(s) {
		l = append(l, s[:at], s[at:], s[:at]+s[at+1:], s[:at]+s[at:at+1]+s[at:])
		for b := range 256 {
			x := string([]byte{byte(b)})
			l = append(l, s[:at]+x+s[at:], s[:at]+x+s[at+1:])
		}
	}
	for b := range 256 {
		l = append(l, s+string([]byte{byte(b)}))
	}
	return l
}

// P10.1: of each deed's word that deed, of all that is near to one, or none at all, none.
func TestDeed(t *testing.T) {
	deeds, tried := map[string]int{}, []string{"", "0", "5", "-1", "undo", "reserve,", "none", "done", "refused", "pay", "store", "carry", "1-ship", "shıp", "ſhip", "\xFF"}
	for deed, x := range chapter {
		deeds[x.word] = deed
		tried = append(append(tried, x.word), near(x.word)...)
	}
	for _, word := range tried {
		want, some := deeds[word]
		if deed, ok := Deed(word); deed != want || ok != some {
			t.Errorf("Deed(%.60q): %d, %v; want %d, %v", word, deed, ok, want, some)
		}
	}
}

// P10.2: Order ahead of Deed, also where the difference of two would be beyond int.
func TestLess(t *testing.T) {
	for _, x := range []struct {
		a, b api.Key
		want bool
	}{
		{api.Key{Order: 1, Deed: 5}, api.Key{Order: 2}, true}, {api.Key{Order: 2}, api.Key{Order: 1, Deed: 5}, false}, {api.Key{Order: 2}, api.Key{Order: 2}, false},
		{api.Key{Order: 2, Deed: 1}, api.Key{Order: 2, Deed: 2}, true}, {api.Key{Order: 2, Deed: 2}, api.Key{Order: 2, Deed: 1}, false}, {api.Key{Order: 9, Deed: 1}, api.Key{Order: 10, Deed: 1}, true},
		{api.Key{Order: math.MinInt, Deed: 1}, api.Key{Order: math.MaxInt}, true}, {api.Key{Order: math.MaxInt}, api.Key{Order: math.MinInt, Deed: 1}, false},
		{api.Key{Order: 1, Deed: math.MinInt}, api.Key{Order: 1, Deed: math.MaxInt}, true}, {api.Key{Order: 1, Deed: math.MaxInt}, api.Key{Order: 1, Deed: math.MinInt}, false},
		{api.Key{Order: -1, Deed: 3}, api.Key{}, true}, {api.Key{Order: -2}, api.Key{Order: -1}, true}, {api.Key{Order: 1 << 32}, api.Key{Order: 1}, false},
	} {
		if ok := Less(x.a, x.b); ok != x.want {
			t.Errorf("Less(%v, %v): %v; want %v", x.a, x.b, ok, x.want)
		}
	}
}

// P10.2, P10.3: keys that are laid out from the least to the greatest: just those ahead are Less, of any numbers.
func TestLessOfAll(t *testing.T) {
	rising, l := []int{math.MinInt, math.MinInt + 1, -1 << 32, -61, -2, -1, 0, 1, 2, 3, 5, 6, 9, 10, 59, 60, 61, 255, 256, 1 << 32, 1<<32 + 1, math.MaxInt - 1, math.MaxInt}, []api.Key{}
	for _, order := range rising {
		for _, deed := range rising {
			l = append(l, api.Key{Order: order, Deed: deed})
		}
	}
	for i, a := range l {
		for j, b := range l {
			if Less(a, b) != (i < j) {
				t.Fatalf("Less(%v, %v): %v; want %v", a, b, Less(a, b), i < j)
			}
			if a != b && Less(a, b) == Less(b, a) {
				t.Fatalf("%v and %v: both, or none, is Less", a, b)
			}
		}
	}
}

// P10.2: in whichever order they were, keys that are sorted by Less are in one.
func TestLessSorts(t *testing.T) {
	want := []api.Key{}
	for order := 1; order <= 60; order++ {
		for deed := range 6 {
			want = append(want, api.Key{Order: order, Deed: deed})
		}
	}
	r := rand.New(rand.NewSource(10))
	for range 20 {
		l := slices.Clone(want)
		r.Shuffle(len(l), func(i, j int) { l[i], l[j] = l[j], l[i] })
		slices.SortFunc(l, func(a, b api.Key) int {
			switch {
			case Less(a, b):
				return -1
			case Less(b, a):
				return 1
			}
			return 0
		})
		if !slices.Equal(l, want) {
			t.Errorf("sorted: %v", l)
		}
	}
}

// P10.2: the least and the greatest key, and such as may not be.
func TestPut(t *testing.T) {
	for _, x := range []struct {
		k    api.Key
		want string
	}{
		{api.Key{Order: 12, Deed: api.DeRefund}, "12-refund"}, {api.Key{Order: 1}, "1-reserve"}, {api.Key{Order: 60, Deed: 5}, "60-void"}, {api.Key{Order: 9, Deed: 1}, "9-charge"}, {api.Key{Order: 10, Deed: 2}, "10-ship"}, {api.Key{Order: 3, Deed: 3}, "3-release"},
		{api.Key{}, ""}, {api.Key{Order: 61, Deed: 2}, ""}, {api.Key{Order: -1, Deed: 2}, ""}, {api.Key{Order: 1, Deed: 6}, ""}, {api.Key{Order: 1, Deed: -1}, ""}, {api.Key{Order: 1<<32 + 1, Deed: 2}, ""}, {api.Key{Order: 1, Deed: 1 << 32}, ""},
		{api.Key{Order: math.MinInt, Deed: math.MinInt}, ""}, {api.Key{Order: math.MaxInt, Deed: math.MaxInt}, ""},
	} {
		if s := Put(x.k); s != x.want {
			t.Errorf("Put(%v): %q; want %q", x.k, s, x.want)
		}
	}
}

// P10.2, P10.3: texts that are near to one that is put, or are put of a key that may not be.
func TestGet(t *testing.T) {
	all := texts()
	for _, s := range []string{"1-reserve", "9-charge", "12-refund", "60-void", "10-ship", "33-release"} {
		for _, x := range append(near(s), s) {
			isGot(t, x, all)
		}
	}
	for _, s := range []string{
		"", "-", "--", "1", "1-", "-ship", "ship", "ship-1", "1ship", "1--ship", "1-ship-", "1-ship-ship", "1-ship-2-ship", "1-2-ship", "-1-ship", "--1-ship", "0-ship", "-0-ship", "00-ship", "01-ship", "012-refund", "+1-ship", " 1-ship", "1 -ship", "1- ship", "1-ship ", "1-ship\n", "1-ship\x00", "\x001-ship",
		"1-Ship", "1-SHIP", "1_ship", "1:ship", "1–ship", "1-1", "1-2", "1-none", "1-done", "61-ship", "100-ship", "0x1-ship", "1.0-ship", "1e0-ship", "1_0-ship", "١-ship",
		"256-ship", "257-ship", "65537-ship", "4294967297-ship", "9223372036854775807-ship", "9223372036854775808-ship", "18446744073709551617-ship", "-18446744073709551615-ship", "-9223372036854775808-ship",
		strings.Repeat("0", 100000) + "1-ship", strings.Repeat("1", 100000) + "-ship", "1" + strings.Repeat("-", 100000) + "ship", "1-" + strings.Repeat("ship", 100000), strings.Repeat("-", 100000),
	} {
		if k, ok := Get(s); k != (api.Key{}) || ok {
			t.Errorf("Get(%.60q): %v, %v; want none", s, k, ok)
		}
	}
}

// P10.2, P10.3: each number, with each word, with what may stand ahead, between or behind.
func TestGetOfParts(t *testing.T) {
	all := texts()
	for _, order := range numbers() {
		for _, x := range chapter {
			for _, form := range []string{"%d-%s", "%02d-%s", "%03d-%s", "%+d-%s", "%d%s", "%d--%s", " %d-%s", "%d-%s ", "%d-%s-", "-%d-%s", "%d-u%s", "%d_%s", "%x-%s", "%d,%s"} {
				isGot(t, fmt.Sprintf(form, order, x.word), all)
			}
		}
	}
}

// P10.2, P10.3: all short texts of bytes that mean something, ahead of a word, and in its place.
func TestGetOfShort(t *testing.T) {
	all := texts()
	for _, s := range samples.Texts("-0169 +", 4) {
		isGot(t, s, all)
		for _, word := range []string{"ship", "-reserve", "-void", "-e", "6-refund"} {
			isGot(t, s+word, all)
			isGot(t, word+s, all)
		}
	}
}

// P10.3: a deed and the one that undoes it have one party; none undoes two, none is undone by two, and what undoes is not undone.
func TestUndoing(t *testing.T) {
	by := map[int]int{}
	for _, deed := range numbers() {
		which, ok := Undoes(deed)
		if !ok {
			continue
		}
		if Party(which) != Party(deed) || Party(deed) < 0 {
			t.Errorf("%d undoes %d: of %d and %d", deed, which, Party(deed), Party(which))
		}
		if _, again := Undoes(which); again {
			t.Errorf("%d undoes %d, that undoes", deed, which)
		}
		if other, taken := by[which]; taken {
			t.Errorf("%d and %d undo %d", other, deed, which)
		}
		by[which] = deed
	}
	if len(by) != 3 {
		t.Errorf("undone by: %v; want 3", by)
	}
}

// P10.1 to P10.3, of any texts and numbers.
func FuzzAny(f *testing.F) {
	f.Add("12-refund", 12, 4)
	f.Add("012-refund", 61, 2)
	f.Add("-1-ship", 0, 6)
	f.Add("ship", math.MinInt, math.MaxInt)
	all := texts()
	f.Fuzz(func(t *testing.T, s string, order, deed int) {
		k := api.Key{Order: order, Deed: deed}
		isGot(t, s, all)
		isPut(t, k, all)
		isPut(t, api.Key{Order: order % 64, Deed: deed % 8}, all)
		if n, ok := Deed(s); ok && Word(n) != s {
			t.Errorf("Word(%d), that is of %q: %q", n, s, Word(n))
		}
		other := api.Key{Order: deed, Deed: order}
		if Less(k, k) || (k != other) != (Less(k, other) != Less(other, k)) {
			t.Errorf("Less of %v and %v: %v; %v", k, other, Less(k, other), Less(other, k))
		}
	})
}

// The chapter's examples.
func TestExamples(t *testing.T) {
	refund := api.Key{Order: 12, Deed: api.DeRefund}
	if s := Put(refund); s != "12-refund" {
		t.Errorf("Put: %q", s)
	}
	if k, ok := Get("12-refund"); k != refund || !ok {
		t.Errorf("Get: %v, %v", k, ok)
	}
	for _, s := range []string{"012-refund", "61-ship"} {
		if k, ok := Get(s); k != (api.Key{}) || ok {
			t.Errorf("Get(%q): %v, %v", s, k, ok)
		}
	}
	if which, ok := Undoes(api.DeVoid); which != api.DeShip || !ok {
		t.Errorf("Undoes(DeVoid): %d, %v", which, ok)
	}
	if which, ok := Undoes(api.DeShip); which != 0 || ok {
		t.Errorf("Undoes(DeShip): %d, %v", which, ok)
	}
	if Party(api.DeShip) != api.PaCarry || Party(9) != -1 {
		t.Errorf("Party: %d, %d", Party(api.DeShip), Party(9))
	}
	last, first := api.Key{Order: 1, Deed: 5}, api.Key{Order: 2, Deed: 0}
	if !Less(last, first) || Less(first, first) {
		t.Errorf("Less: %v, %v", Less(last, first), Less(first, first))
	}
}

// R2: asked again and again, the same is answered, in whichever order words are gone through.
func TestSameAgain(t *testing.T) {
	for range 200 {
		for deed, x := range chapter {
			if Word(deed) != x.word || Put(api.Key{Order: 7, Deed: deed}) != "7-"+x.word {
				t.Fatalf("%d: %q, %q", deed, Word(deed), Put(api.Key{Order: 7, Deed: deed}))
			}
			Word(-1)
			Deed("other")
			Get("7-other")
		}
	}
}
