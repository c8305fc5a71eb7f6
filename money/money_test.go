package money

import (
	"math"
	"math/big"
	"strconv"
	"strings"
	"testing"

	"consignor/samples"
)

const (
	greatest = math.MaxInt64
	least    = math.MinInt64
)

// edges are amounts round about where something turns: 0, each power of 10 and of 2, both ends.
func edges() []int64 {
	l := []int64{greatest, greatest - 1, greatest - 2, greatest/2 + 1, least, least + 1, least + 2, least/2 - 1}
	for n := int64(-20); n <= 20; n++ {
		l = append(l, n)
	}
	for i, ten := 0, int64(1); i < 19; i, ten = i+1, ten*10 {
		l = append(l, ten, ten-1, ten+1, -ten, 1-ten, -1-ten)
	}
	for i := range 63 {
		two := int64(1) << i
		l = append(l, two, two-1, two+1, -two, 1-two, -1-two)
	}
	return l
}

// told is what a sum without bounds is to be told as.
func told(n *big.Int) (int64, bool) {
	if !n.IsInt64() {
		return 0, false
	}
	return n.Int64(), true
}

// P1.1: ordinary amounts, both ends, and one beyond each.
func TestSums(t *testing.T) {
	for _, x := range []struct {
		name string
		call func(a, b int64) (int64, bool)
		a, b int64
		want int64
		ok   bool
	}{
		{"Add", Add, 2, -5, -3, true},
		{"Add", Add, 0, 0, 0, true},
		{"Add", Add, greatest, 0, greatest, true},
		{"Add", Add, greatest, 1, 0, false},
		{"Add", Add, 1, greatest, 0, false},
		{"Add", Add, greatest, greatest, 0, false},
		{"Add", Add, greatest - 1, 1, greatest, true},
		{"Add", Add, least, 0, least, true},
		{"Add", Add, least, -1, 0, false},
		{"Add", Add, -1, least, 0, false},
		{"Add", Add, least, least, 0, false},
		{"Add", Add, least + 1, -1, least, true},
		{"Add", Add, least, greatest, -1, true},
		{"Sub", Sub, 2, -5, 7, true},
		{"Sub", Sub, 0, 0, 0, true},
		{"Sub", Sub, greatest, greatest, 0, true},
		{"Sub", Sub, greatest, -1, 0, false},
		{"Sub", Sub, greatest - 1, -1, greatest, true},
		{"Sub", Sub, least, 0, least, true},
		{"Sub", Sub, least, 1, 0, false},
		{"Sub", Sub, least, least, 0, true},
		{"Sub", Sub, -1, least, greatest, true},
		{"Sub", Sub, 0, least, 0, false},
		{"Sub", Sub, greatest, least, 0, false},
		{"Sub", Sub, least, greatest, 0, false},
		{"Sub", Sub, 0, greatest, -greatest, true},
	} {
		if n, ok := x.call(x.a, x.b); n != x.want || ok != x.ok {
			t.Errorf("%s(%d, %d): %d, %v; want %d, %v", x.name, x.a, x.b, n, ok, x.want, x.ok)
		}
	}
}

// P1.1: all pairs of edges, against sums without bounds.
func TestSumsOfEdges(t *testing.T) {
	for _, a := range edges() {
		for _, b := range edges() {
			x, y := big.NewInt(a), big.NewInt(b)
			want, some := told(new(big.Int).Add(x, y))
			if n, ok := Add(a, b); n != want || ok != some {
				t.Fatalf("Add(%d, %d): %d, %v; want %d, %v", a, b, n, ok, want, some)
			}
			want, some = told(new(big.Int).Sub(x, y))
			if n, ok := Sub(a, b); n != want || ok != some {
				t.Fatalf("Sub(%d, %d): %d, %v; want %d, %v", a, b, n, ok, want, some)
			}
		}
	}
}

// P1.1: only the least amount has none with the other sign.
func TestNeg(t *testing.T) {
	for _, a := range edges() {
		want, some := -a, a != least
		if !some {
			want = 0
		}
		if n, ok := Neg(a); n != want || ok != some {
			t.Errorf("Neg(%d): %d, %v; want %d, %v", a, n, ok, want, some)
		}
	}
}

// P1.2: what is put, and got back.
func TestPut(t *testing.T) {
	for s, n := range map[string]int64{
		"0": 0, "7": 7, "-7": -7, "10": 10, "-120": -120, "1000000": 1000000,
		"1099511627776":        1 << 40,
		"999999999999999999":   999999999999999999,
		"1000000000000000000":  1000000000000000000,
		"-1000000000000000000": -1000000000000000000,
		"9223372036854775807":  greatest,
		"-9223372036854775807": -greatest,
		"-9223372036854775808": least,
	} {
		if got := Put(n); got != s {
			t.Errorf("Put(%d): %q; want %q", n, got, s)
		}
		if got, ok := Get(s); got != n || !ok {
			t.Errorf("Get(%q): %d, %v; want %d, true", s, got, ok, n)
		}
	}
	for _, n := range edges() {
		if got, want := Put(n), strconv.FormatInt(n, 10); got != want {
			t.Errorf("Put(%d): %q; want %q", n, got, want)
		}
	}
}

// P1.2: texts that Put tells of no amount.
func TestGetOfNone(t *testing.T) {
	for _, s := range []string{
		"", "-", "--", "--1", "-0", "-00", "00", "01", "007", "-007", "+", "+1", "+0", "1-",
		" ", " 1", "1 ", "- 1", "1 2", "1\n", "\x00", "1\x00", "1_0", "1,0", "1.0", "1e3", "0x1", "a", "1a", "a1", "/", ":", "1/", "1:",
		"\xff", "\xb1", "１", "٣", "−1",
		"9223372036854775808", "-9223372036854775809", "9999999999999999999", "-9999999999999999999",
		"18446744073709551615", "18446744073709551616", "18446744073709551617", "-18446744073709551617",
		"00000000000000000001", "0000000000000000000", "10000000000000000000",
		strings.Repeat("9", 1000), strings.Repeat("0", 1000), "-" + strings.Repeat("1", 1000),
	} {
		if n, ok := Get(s); n != 0 || ok {
			t.Errorf("Get(%q): %d, %v; want 0, false", s, n, ok)
		}
	}
}

// P1.3: the digits fill the width; widths and amounts just beyond fill nothing.
func TestPad(t *testing.T) {
	for _, x := range []struct {
		n     int64
		width int
		want  string
	}{
		{42, 5, "00042"}, {42, 3, "042"}, {42, 2, "42"}, {42, 1, ""},
		{0, 1, "0"}, {0, 3, "000"}, {0, 18, "000000000000000000"}, {0, 19, ""}, {0, 0, ""},
		{9, 1, "9"}, {10, 1, ""}, {10, 2, "10"}, {99, 2, "99"}, {100, 2, ""},
		{1, 18, "000000000000000001"}, {1, 19, ""}, {1, 20, ""}, {1, 0, ""}, {1, -1, ""},
		{1, math.MaxInt, ""}, {1, math.MinInt, ""},
		{-1, 1, ""}, {-1, 2, ""}, {-1, 5, ""}, {-1, 18, ""}, {least, 18, ""}, {least, 19, ""}, {least, 20, ""},
		{999999999999999999, 18, "999999999999999999"}, {999999999999999999, 17, ""}, {999999999999999999, 19, ""},
		{1000000000000000000, 18, ""}, {1000000000000000000, 19, ""},
		{greatest, 18, ""}, {greatest, 19, ""},
	} {
		if s := Pad(x.n, x.width); s != x.want {
			t.Errorf("Pad(%d, %d): %q; want %q", x.n, x.width, s, x.want)
		}
	}
}

// P1.3: all edges in all widths, against 0 laid ahead one by one.
func TestPadOfEdges(t *testing.T) {
	for _, n := range edges() {
		for width := -2; width <= 22; width++ {
			want := strconv.FormatInt(n, 10)
			for len(want) < width {
				want = "0" + want
			}
			if n < 0 || width < 1 || width > 18 || len(want) != width {
				want = ""
			}
			if s := Pad(n, width); s != want {
				t.Errorf("Pad(%d, %d): %q; want %q", n, width, s, want)
			}
		}
	}
}

// P1.3: 1 to 18 digits, and nothing else.
func TestUnpad(t *testing.T) {
	for s, want := range map[string]int64{
		"0": 0, "9": 9, "00": 0, "42": 42, "00042": 42, "007": 7, "10": 10,
		"000000000000000000": 0, "000000000000000001": 1,
		"100000000000000000": 100000000000000000, "999999999999999999": 999999999999999999,
	} {
		if n, ok := Unpad(s); n != want || !ok {
			t.Errorf("Unpad(%q): %d, %v; want %d, true", s, n, ok, want)
		}
	}
	for _, s := range []string{
		"", "-", "-1", "-0", "+1", " ", " 1", "1 ", "1 2", "1\n", "\x00", "1\x00", "1_0", "1.0", "0x1", "a", "1a", "a1", "/", ":", "0/", ":0",
		"\xff", "\xb1", "１", "٣",
		"0000000000000000000", "0000000000000000001", "1234567890123456789", "9999999999999999999",
		strings.Repeat("0", 1000), strings.Repeat("7", 1000),
	} {
		if n, ok := Unpad(s); n != 0 || ok {
			t.Errorf("Unpad(%q): %d, %v; want 0, false", s, n, ok)
		}
	}
}

// P1.4: what is put is got, what is padded is unpadded.
func TestPutIsGot(t *testing.T) {
	for _, n := range edges() {
		if got, ok := Get(Put(n)); got != n || !ok {
			t.Errorf("Get of Put(%d): %d, %v", n, got, ok)
		}
		for width := 1; width <= 18; width++ {
			s := Pad(n, width)
			if s == "" {
				continue
			}
			if got, ok := Unpad(s); got != n || !ok {
				t.Errorf("Unpad of Pad(%d, %d): %d, %v", n, width, got, ok)
			}
		}
	}
}

// P1.2 to P1.4: what is got is put, what is unpadded is padded to as much; all else is got as 0 and false.
func TestGotIsPut(t *testing.T) {
	for _, s := range samples.Texts("0189-+ /:a", 4) {
		gotIsPut(t, s)
	}
}

// P1.2 to P1.4, of any bytes.
func FuzzGotIsPut(f *testing.F) {
	for _, n := range edges() {
		f.Add(strconv.FormatInt(n, 10))
		f.Add("0" + strconv.FormatInt(n, 10))
	}
	f.Fuzz(gotIsPut)
}

func gotIsPut(t *testing.T, s string) {
	n, ok := Get(s)
	// The library takes more than Put tells (+1, 007): what it tells anew of that is what Put is to tell.
	want, err := strconv.ParseInt(s, 10, 64)
	some := err == nil && strconv.FormatInt(want, 10) == s
	if ok != some || ok && (n != want || Put(n) != s) || !ok && n != 0 {
		t.Errorf("Get(%q): %d, %v; Put of that: %q", s, n, ok, Put(n))
	}
	n, ok = Unpad(s)
	some = len(s) >= 1 && len(s) <= 18 && strings.Trim(s, "0123456789") == ""
	if ok != some || ok && Pad(n, len(s)) != s || !ok && n != 0 {
		t.Errorf("Unpad(%q): %d, %v; Pad of that: %q", s, n, ok, Pad(n, len(s)))
	}
}

// P1.4: how far it is to the greatest, or the least, amount tells whether there is a sum; Sub undoes Add.
func TestSumsFollow(t *testing.T) {
	for _, a := range edges() {
		for _, b := range edges() {
			n, ok := Add(a, b)
			if some := hasRoom(t, a, b); ok != some {
				t.Fatalf("Add(%d, %d): %v; the room behind %d says %v", a, b, ok, b, some)
			}
			if !ok {
				continue
			}
			if back, ok := Sub(n, b); back != a || !ok {
				t.Fatalf("Sub(%d, %d): %d, %v; want %d, true", n, b, back, ok, a)
			}
			if back, ok := Sub(n, a); back != b || !ok {
				t.Fatalf("Sub(%d, %d): %d, %v; want %d, true", n, a, back, ok, b)
			}
		}
	}
}

// hasRoom tells by the difference of b from the end it goes to whether a and b have a sum.
func hasRoom(t *testing.T, a, b int64) bool {
	end := int64(greatest)
	if b < 0 {
		end = least
	}
	room, ok := Sub(end, b)
	if !ok {
		t.Fatalf("Sub(%d, %d): false", end, b)
	}
	if b < 0 {
		return a >= room
	}
	return a <= room
}

// R2: asked again, the same is answered, whatever was asked between.
func TestSameAgain(t *testing.T) {
	for _, n := range edges() {
		text, padded := Put(n), Pad(n, 18)
		Get("x")
		Add(n, greatest)
		Unpad("9")
		if Put(n) != text || Pad(n, 18) != padded {
			t.Errorf("%d: %q, %q; then %q, %q", n, text, padded, Put(n), Pad(n, 18))
		}
	}
}
