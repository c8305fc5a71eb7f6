package bits

import (
	"encoding/binary"
	"math"
	"math/big"
	"strings"
	"testing"

	"consignor/samples"
)

// edges are numbers round about where something turns: 0, each power of 2 (so each byte, each seven bits), the ends.
func edges() []uint64 {
	l := []uint64{0x0102030405060708, 0x8182838485868788, 0x8000000000000001, 0x5555555555555555, 0xAAAAAAAAAAAAAAAA}
	for n := range uint64(300) {
		l = append(l, n, math.MaxUint64-n)
	}
	for i := range 64 {
		two := uint64(1) << i
		l = append(l, two, two-1, two+1, -two)
	}
	return l
}

// tails are texts that may stand behind.
var tails = []string{"", "\x00", "\x01", "\x80", "\xFF", "x", "\x80\x00", "\xFF\xFF\xFF", strings.Repeat("\xFF", 20)}

// someTexts are short ones of few bytes, and those whose length turns in sevens.
func someTexts() []string {
	l := samples.Texts("\x00\x01\x7F\x80\xFFa", 3)
	for _, size := range []int{126, 127, 128, 129, 255, 256, 16383, 16384, 16385, 65536} {
		l = append(l, strings.Repeat("z", size), strings.Repeat("\xFF", size))
	}
	return l
}

// P2.1: the lowest bytes, the highest of them first; sizes just beyond tell nothing.
func TestPut(t *testing.T) {
	for _, x := range []struct {
		n    uint64
		size int
		want string
	}{
		{0, 1, "\x00"}, {0, 4, "\x00\x00\x00\x00"}, {0, 8, "\x00\x00\x00\x00\x00\x00\x00\x00"},
		{2, 4, "\x00\x00\x00\x02"}, {10, 1, "\x0A"},
		{255, 1, "\xFF"}, {256, 1, "\x00"}, {256, 2, "\x01\x00"}, {257, 1, "\x01"}, {0x1234, 1, "\x34"}, {0x1234, 2, "\x12\x34"}, {0x1234, 3, "\x00\x12\x34"},
		{0x0102030405060708, 8, "\x01\x02\x03\x04\x05\x06\x07\x08"},
		{0x0102030405060708, 7, "\x02\x03\x04\x05\x06\x07\x08"},
		{0x0102030405060708, 3, "\x06\x07\x08"},
		{0xF1F2F3F4F5F6F7F8, 1, "\xF8"},
		{math.MaxUint64, 8, "\xFF\xFF\xFF\xFF\xFF\xFF\xFF\xFF"},
		{math.MaxUint64, 4, "\xFF\xFF\xFF\xFF"},
		{1 << 63, 8, "\x80\x00\x00\x00\x00\x00\x00\x00"}, {1 << 63, 7, "\x00\x00\x00\x00\x00\x00\x00"},
		{5, 0, ""}, {5, -1, ""}, {5, -8, ""}, {5, 9, ""}, {5, 10, ""}, {5, 16, ""}, {5, 64, ""}, {0, 0, ""}, {0, 9, ""},
		{math.MaxUint64, 0, ""}, {math.MaxUint64, 9, ""}, {5, math.MaxInt, ""}, {5, math.MinInt, ""}, {5, 1<<32 + 4, ""}, {5, -1<<32 + 4, ""},
	} {
		if s := Put(x.n, x.size); s != x.want {
			t.Errorf("Put(%x, %d): %x; want %x", x.n, x.size, s, x.want)
		}
	}
}

// P2.1: all edges in all sizes, against the library's bytes.
func TestPutOfEdges(t *testing.T) {
	for _, n := range edges() {
		all := string(binary.BigEndian.AppendUint64(nil, n))
		for size := -3; size <= 20; size++ {
			want := ""
			if size >= 1 && size <= 8 {
				want = all[8-size:]
			}
			if s := Put(n, size); s != want {
				t.Errorf("Put(%x, %d): %x; want %x", n, size, s, want)
			}
		}
	}
}

// P2.1: the first eight bytes, or all of fewer, the highest first.
func TestGet(t *testing.T) {
	for s, want := range map[string]uint64{
		"": 0, "\x00": 0, "\x01": 1, "\xFF": 255, "a": 97, "ab": 97<<8 | 98, "\x00\x01": 1, "\x01\x00": 256, "\x00\x00\x00\x02": 2,
		"\x12\x34\x56":                         0x123456,
		"\xFF\xFF\xFF\xFF":                     math.MaxUint32,
		"\x01\x02\x03\x04\x05\x06\x07":         0x01020304050607,
		"\x01\x02\x03\x04\x05\x06\x07\x08":     0x0102030405060708,
		"\x01\x02\x03\x04\x05\x06\x07\x08\x09": 0x0102030405060708,
		"\x00\x00\x00\x00\x00\x00\x00\x00\x01": 0,
		"\x80\x00\x00\x00\x00\x00\x00\x00\xFF": 1 << 63,
		strings.Repeat("\xFF", 7):              1<<56 - 1,
		strings.Repeat("\xFF", 8):              math.MaxUint64,
		strings.Repeat("\xFF", 1000):           math.MaxUint64,
	} {
		if n := Get(s); n != want {
			t.Errorf("Get(%x): %x; want %x", s, n, want)
		}
	}
}

// P2.1, P2.5: what is put is got, of its size; what is got is put.
func TestPutIsGot(t *testing.T) {
	for _, n := range edges() {
		for size := 1; size <= 8; size++ {
			want := n
			if size < 8 {
				want %= 1 << (8 * size)
			}
			if got := Get(Put(n, size)); got != want {
				t.Errorf("Get of Put(%x, %d): %x; want %x", n, size, got, want)
			}
		}
		for _, tail := range tails {
			if got := Get(Put(n, 8) + tail); got != n {
				t.Errorf("Get of Put(%x, 8) and %x: %x", n, tail, got)
			}
		}
	}
}

// P2.2: the lowest seven bits first, as few bytes as hold all.
func TestVar(t *testing.T) {
	for _, x := range []struct {
		n    uint64
		want string
	}{
		{0, "\x00"}, {1, "\x01"}, {64, "\x40"}, {126, "\x7E"}, {127, "\x7F"},
		{128, "\x80\x01"}, {129, "\x81\x01"}, {255, "\xFF\x01"}, {256, "\x80\x02"}, {300, "\xAC\x02"},
		{1<<14 - 1, "\xFF\x7F"}, {1 << 14, "\x80\x80\x01"},
		{1<<21 - 1, "\xFF\xFF\x7F"}, {1 << 21, "\x80\x80\x80\x01"},
		{1<<56 - 1, strings.Repeat("\xFF", 7) + "\x7F"}, {1 << 56, strings.Repeat("\x80", 8) + "\x01"},
		{1<<63 - 1, strings.Repeat("\xFF", 8) + "\x7F"}, {1 << 63, strings.Repeat("\x80", 9) + "\x01"},
		{math.MaxUint64, strings.Repeat("\xFF", 9) + "\x01"},
	} {
		if s := Var(x.n); s != x.want {
			t.Errorf("Var(%d): %x; want %x", x.n, s, x.want)
		}
	}
	for _, n := range edges() {
		if s, want := Var(n), string(binary.AppendUvarint(nil, n)); s != want {
			t.Errorf("Var(%d): %x; want %x", n, s, want)
		}
	}
}

// P2.2: what stands ahead is read, and what is behind it is told.
func TestRead(t *testing.T) {
	for _, x := range []struct {
		s    string
		n    uint64
		rest string
	}{
		{"\xAC\x02x", 300, "x"}, {"\xAC\x02", 300, ""},
		{"\x00", 0, ""}, {"\x00\x00", 0, "\x00"}, {"\x01\x80", 1, "\x80"}, {"\x7F\xFF", 127, "\xFF"},
		{"\x80\x01", 128, ""}, {"\x80\x80\x01", 1 << 14, ""}, {"\xFF\x7F\x00", 1<<14 - 1, "\x00"},
		{strings.Repeat("\xFF", 8) + "\x7F", math.MaxInt64, ""},
		{strings.Repeat("\x80", 9) + "\x01", 1 << 63, ""},
		{strings.Repeat("\x80", 9) + "\x01abc", 1 << 63, "abc"},
		{strings.Repeat("\xFF", 9) + "\x01", math.MaxUint64, ""},
		{strings.Repeat("\xFF", 9) + "\x01\x01", math.MaxUint64, "\x01"},
		{"\x05" + strings.Repeat("y", 70000), 5, strings.Repeat("y", 70000)},
	} {
		if n, rest, ok := Read(x.s); n != x.n || rest != x.rest || !ok {
			t.Errorf("Read(%.40x): %d, %.40x, %v; want %d, %.40x, true", x.s, n, rest, ok, x.n, x.rest)
		}
	}
}

// P2.2: cut off, longer than need be, or beyond 2^64 - 1: 0, nothing and false.
func TestReadOfNone(t *testing.T) {
	nine := strings.Repeat("\x80", 9)
	for _, s := range []string{
		"", "\x80", "\xFF", "\x81", "\xAC", "\x80\x80", "\xFF\xFF\xFF", nine, strings.Repeat("\xFF", 9),
		"\x80\x00", "\x80\x00x", "\x81\x00", "\xFF\x00", "\x80\x80\x00", "\xFF\xFF\x00", "\xAC\x82\x00",
		nine + "\x00", strings.Repeat("\xFF", 9) + "\x00", nine + "\x80\x00", nine + "\x81\x00", strings.Repeat("\xFF", 9) + "\x81\x00",
		nine + "\x02", nine + "\x03", nine + "\x04", nine + "\x7E", nine + "\x7F", nine + "\x40", nine + "\x41",
		strings.Repeat("\xFF", 9) + "\x02", strings.Repeat("\xFF", 9) + "\x03", strings.Repeat("\xFF", 9) + "\x7F", "\x81" + nine[1:] + "\x02",
		strings.Repeat("\xFF", 10), nine + "\x80", nine + "\x81", nine + "\x80\x01", nine + "\x81\x01", nine + "\x80\x02",
		strings.Repeat("\xFF", 10) + "\x01", strings.Repeat("\xFF", 11) + "\x01", strings.Repeat("\x80", 63) + "\x01", strings.Repeat("\x80", 64) + "\x01",
		strings.Repeat("\x80", 1000), strings.Repeat("\x80", 1000) + "\x01", strings.Repeat("\xFF", 1000) + "\x7F",
	} {
		if n, rest, ok := Read(s); n != 0 || rest != "" || ok {
			t.Errorf("Read(%.40x): %d, %.40x, %v; want 0, nothing, false", s, n, rest, ok)
		}
	}
}

// inSevens reads a number by the chapter's words alone, without a bound; false: it is cut off, longer than it need be, or beyond 2^64 - 1.
func inSevens(s string) (uint64, string, bool) {
	sum, weight := new(big.Int), big.NewInt(1)
	for i := range len(s) {
		seven := big.NewInt(int64(s[i] % 128))
		sum.Add(sum, seven.Mul(seven, weight))
		weight.Mul(weight, big.NewInt(128))
		if s[i] >= 128 {
			continue
		}
		if i > 0 && s[i] == 0 || !sum.IsUint64() {
			return 0, "", false
		}
		return sum.Uint64(), s[i+1:], true
	}
	return 0, "", false
}

// isRead holds what is told of any bytes against the chapter's words, and puts it again.
func isRead(t *testing.T, s string) {
	want, tail, some := inSevens(s)
	n, rest, ok := Read(s)
	if n != want || rest != tail || ok != some {
		t.Errorf("Read(%x): %d, %x, %v; want %d, %x, %v", s, n, rest, ok, want, tail, some)
	}
	if ok && Var(n)+rest != s {
		t.Errorf("Read(%x): %d, %x; Var of that: %x", s, n, rest, Var(n))
	}
	text, behind := "", ""
	if some = some && want <= uint64(len(tail)); some {
		text, behind = tail[:want], tail[want:]
	}
	cut, rest, ok := Cut(s)
	if cut != text || rest != behind || ok != some {
		t.Errorf("Cut(%x): %x, %x, %v; want %x, %x, %v", s, cut, rest, ok, text, behind, some)
	}
	if ok && Text(cut)+rest != s {
		t.Errorf("Cut(%x): %x, %x; Text of that: %x", s, cut, rest, Text(cut))
	}
	if len(s) >= 1 && len(s) <= 8 && Put(Get(s), len(s)) != s {
		t.Errorf("Get(%x): %x; Put of that: %x", s, Get(s), Put(Get(s), len(s)))
	}
}

// P2.1, P2.2, P2.4, P2.5: all texts of a few bytes, alone and behind bytes that lead up to the last one that may be.
func TestWhatIsReadIsPut(t *testing.T) {
	for _, s := range samples.Texts("\x00\x01\x02\x03\x7F\x80\x81\xFF", 4) {
		isRead(t, s)
		isRead(t, strings.Repeat("\x80", 7)+s)
		isRead(t, strings.Repeat("\x80", 8)+s)
		isRead(t, strings.Repeat("\xFF", 9)+s)
	}
}

// P2.1, P2.2, P2.4, P2.5, of any bytes.
func FuzzWhatIsReadIsPut(f *testing.F) {
	for _, n := range edges() {
		f.Add(Var(n) + "x")
		f.Add(Text(Var(n)) + "\x80")
	}
	f.Fuzz(isRead)
}

// P2.5: what is put in sevens is read, whatever stands behind; of what is cut off nothing is read.
func TestVarIsRead(t *testing.T) {
	for _, n := range edges() {
		s := Var(n)
		for _, tail := range tails {
			if got, rest, ok := Read(s + tail); got != n || rest != tail || !ok {
				t.Errorf("Read of Var(%d) and %x: %d, %x, %v", n, tail, got, rest, ok)
			}
		}
		for i := range len(s) {
			if got, rest, ok := Read(s[:i]); got != 0 || rest != "" || ok {
				t.Errorf("Read of Var(%d), cut off at %d: %d, %x, %v", n, i, got, rest, ok)
			}
		}
	}
}

// P2.3: numbers in order of their size, those below 0 between.
func TestSign(t *testing.T) {
	for _, x := range []struct {
		n    int64
		want uint64
	}{
		{0, 0}, {-1, 1}, {1, 2}, {-2, 3}, {2, 4}, {-3, 5}, {3, 6}, {63, 126}, {-64, 127}, {64, 128}, {-120, 239}, {900, 1800},
		{math.MaxInt32, math.MaxUint32 - 1}, {math.MinInt32, math.MaxUint32},
		{1 << 40, 1 << 41}, {-1 << 40, 1<<41 - 1}, {1 << 62, 1 << 63}, {-1 << 62, 1<<63 - 1},
		{math.MaxInt64 - 1, math.MaxUint64 - 3}, {math.MaxInt64, math.MaxUint64 - 1},
		{math.MinInt64 + 1, math.MaxUint64 - 2}, {math.MinInt64, math.MaxUint64},
	} {
		if n := Sign(x.n); n != x.want {
			t.Errorf("Sign(%d): %d; want %d", x.n, n, x.want)
		}
		if n := Back(x.want); n != x.n {
			t.Errorf("Back(%d): %d; want %d", x.want, n, x.n)
		}
	}
}

// P2.3: all edges, against sums without bounds.
func TestSignOfEdges(t *testing.T) {
	for _, x := range edges() {
		n := int64(x)
		want := big.NewInt(n)
		if n < 0 {
			want.Sub(big.NewInt(-1), want)
		}
		want.Lsh(want, 1)
		if n < 0 {
			want.Add(want, big.NewInt(1))
		}
		if got := Sign(n); got != want.Uint64() || !want.IsUint64() {
			t.Errorf("Sign(%d): %d; want %d", n, got, want)
		}
	}
}

// P2.5: Sign and Back lead back to each other, all bits of both sides used.
func TestSignLeadsBack(t *testing.T) {
	for _, n := range edges() {
		if got := Back(Sign(int64(n))); got != int64(n) {
			t.Errorf("Back of Sign(%d): %d", int64(n), got)
		}
		if got := Sign(Back(n)); got != n {
			t.Errorf("Sign of Back(%d): %d", n, got)
		}
	}
}

// P2.4: how long it is, in sevens, and it.
func TestText(t *testing.T) {
	long := strings.Repeat("z", 300)
	for s, want := range map[string]string{
		"": "\x00", "a": "\x01a", "ab": "\x02ab", "\x00": "\x01\x00", "\x80\xFF": "\x02\x80\xFF", "é": "\x02\xC3\xA9",
		long[:127]: "\x7F" + long[:127], long[:128]: "\x80\x01" + long[:128], long: "\xAC\x02" + long,
	} {
		if got := Text(s); got != want {
			t.Errorf("Text(%.40q): %.40q; want %.40q", s, got, want)
		}
	}
}

// P2.4: the text that stands ahead, and what is behind it.
func TestCut(t *testing.T) {
	long := strings.Repeat("z", 300)
	for _, x := range []struct{ s, text, rest string }{
		{"\x02abc", "ab", "c"}, {"\x02ab", "ab", ""}, {"\x00", "", ""}, {"\x00abc", "", "abc"}, {"\x00\x00", "", "\x00"},
		{"\x01\x80", "\x80", ""}, {"\x01\x80\x80", "\x80", "\x80"}, {"\x02\x00\x01\x02", "\x00\x01", "\x02"},
		{"\x7F" + long, long[:127], long[127:]}, {"\x80\x01" + long, long[:128], long[128:]}, {"\xAC\x02" + long, long, ""},
	} {
		if text, rest, ok := Cut(x.s); text != x.text || rest != x.rest || !ok {
			t.Errorf("Cut(%.40q): %.40q, %.40q, %v; want %.40q, %.40q, true", x.s, text, rest, ok, x.text, x.rest)
		}
	}
}

// P2.4: a length that is none, or is more than there is: nothing, nothing and false.
func TestCutOfNone(t *testing.T) {
	for _, s := range []string{
		"", "\x01", "\x02", "\x02a", "\x03ab", "\x7F", "\x7Fab",
		"\x80", "\x80\x00", "\x82\x00ab", "\x80\x01ab", "\xAC\x02" + strings.Repeat("z", 299), "\xFF\xFF",
		Var(1<<31) + "ab", Var(1<<32) + "ab", Var(1<<32+1) + "ab", Var(1<<32+2) + "abc", Var(1<<62) + "ab",
		Var(1<<63-1) + "ab", Var(1<<63) + "ab", Var(1<<63+1) + "ab", Var(math.MaxUint64) + "ab", Var(math.MaxUint64),
		strings.Repeat("\x80", 9) + "\x02ab", strings.Repeat("\xFF", 10) + "ab", strings.Repeat("\x80", 10) + "\x01ab", strings.Repeat("\x80", 1000),
	} {
		if text, rest, ok := Cut(s); text != "" || rest != "" || ok {
			t.Errorf("Cut(%.40x): %.40x, %.40x, %v; want nothing, nothing, false", s, text, rest, ok)
		}
	}
}

// P2.5: a text that is put is cut, whatever stands behind; of what is cut off nothing is.
func TestTextIsCut(t *testing.T) {
	for _, x := range someTexts() {
		s := Text(x)
		for _, tail := range tails {
			if text, rest, ok := Cut(s + tail); text != x || rest != tail || !ok {
				t.Errorf("Cut of Text(%.40x) and %x: %.40x, %.40x, %v", x, tail, text, rest, ok)
			}
		}
		for i := range len(s) {
			if text, rest, ok := Cut(s[:i]); text != "" || rest != "" || ok {
				t.Errorf("Cut of Text(%.40x), cut off at %d: %.40x, %.40x, %v", x, i, text, rest, ok)
			}
		}
	}
}

// P2.5: things that were put, one behind the other, are read in order.
func TestOneBehindTheOther(t *testing.T) {
	s := ""
	for _, n := range edges() {
		s += Var(n) + Text(Var(n)) + Var(Sign(int64(n))) + Text("")
	}
	for _, n := range edges() {
		got, rest, ok := Read(s)
		text, rest, cut := Cut(rest)
		sign, rest, read := Read(rest)
		none, rest, last := Cut(rest)
		if got != n || text != Var(n) || Back(sign) != int64(n) || none != "" || !ok || !cut || !read || !last {
			t.Fatalf("%d: %d, %x, %d, %q", n, got, text, Back(sign), none)
		}
		s = rest
	}
	if s != "" {
		t.Errorf("left: %x", s)
	}
}

// R2: asked again, the same is answered, whatever was asked between.
func TestSameAgain(t *testing.T) {
	for _, n := range edges() {
		put, sevens, text := Put(n, 8), Var(n), Text(Var(n))
		Get("x")
		Read("\xFF\xFF")
		Cut("\x7Fab")
		Back(math.MaxUint64)
		if Put(n, 8) != put || Var(n) != sevens || Text(Var(n)) != text {
			t.Errorf("%d: %x, %x, %x; then %x, %x, %x", n, put, sevens, text, Put(n, 8), Var(n), Text(Var(n)))
		}
	}
}
