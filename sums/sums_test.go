package sums

import (
	"encoding/binary"
	"hash/crc32"
	"math/rand"
	"strings"
	"testing"

	"consignor/samples"
)

var castagnoli = crc32.MakeTable(crc32.Castagnoli)

// sealed is a text and its sum, by the library.
func sealed(s string) string {
	return string(binary.LittleEndian.AppendUint32([]byte(s), crc32.Checksum([]byte(s), castagnoli)))
}

// someTexts are short ones of few bytes, each single byte, and longer ones: of one byte, of all, and mixed.
func someTexts() []string {
	l := samples.Texts("\x00\x01\x7F\x80\xFFa", 3)
	all := ""
	for b := range 256 {
		l = append(l, string([]byte{byte(b)}))
		all += string([]byte{byte(b)})
	}
	l = append(l, all, all+all, strings.Repeat(all, 8), strings.Repeat(all, 256))
	mix := rand.New(rand.NewSource(3))
	for _, size := range []int{4, 5, 8, 31, 32, 33, 255, 256, 257, 4096, 65535, 65536, 65537} {
		mixed := make([]byte, size)
		mix.Read(mixed)
		l = append(l, strings.Repeat("\x00", size), strings.Repeat("\xFF", size), strings.Repeat("a", size), string(mixed))
	}
	return l
}

// P3.1: sums that are known of CRC-32C, and the chapter's examples.
func TestSum(t *testing.T) {
	up, down := "", ""
	for b := range byte(32) {
		up += string([]byte{b})
		down += string([]byte{31 - b})
	}
	for _, x := range []struct {
		s    string
		want uint32
	}{
		{"", 0}, {"123456789", 0xE3069283}, {"a", 0xC1D04330}, {"abc", 0x364B3FB7}, {"\x00", 0x527D5351}, {"\xFF", 0xFF000000},
		{"\xFF\xFF\xFF\xFF", 0xFFFFFFFF}, {"\x00\x00\x00\x00", 0x48674BC7},
		{strings.Repeat("\x00", 32), 0x8A9136AA}, {strings.Repeat("\xFF", 32), 0x62A8AB43}, {up, 0x46DD794E}, {down, 0x113FDB5C},
		{"The quick brown fox jumps over the lazy dog", 0x22620404},
	} {
		if sum := Sum(x.s); sum != x.want {
			t.Errorf("Sum(%x): %08X; want %08X", x.s, sum, x.want)
		}
	}
}

// byWords is the sum by the chapter's words alone: a state of 32 single bits, the lowest first.
func byWords(s string) uint32 {
	var state, against [32]bool
	for i := range state {
		state[i] = true
		against[i] = 0x82F63B78>>i&1 == 1
	}
	for _, b := range []byte(s) {
		for i := range 8 {
			state[i] = state[i] != (b>>i&1 == 1)
		}
		for range 8 {
			went := state[0]
			copy(state[:], state[1:])
			state[31] = false
			for i := range state {
				state[i] = state[i] != (went && against[i])
			}
		}
	}
	sum := uint32(0)
	for i, one := range state {
		if !one {
			sum |= 1 << i
		}
	}
	return sum
}

// isSummed holds what is told of any bytes against the library.
func isSummed(t *testing.T, s string) {
	want := sealed(s)
	if sum := Sum(s); sum != binary.LittleEndian.Uint32([]byte(want[len(s):])) {
		t.Errorf("Sum(%.40x): %08X; want %x, the lowest byte first", s, sum, want[len(s):])
	}
	if got := Seal(s); got != want {
		t.Errorf("Seal(%.40x), of %d bytes: another one than the library's", s, len(s))
	}
	if text, ok := Open(want); text != s || !ok {
		t.Errorf("Open of %.40x, sealed: %.40x, %v", s, text, ok)
	}
	text, some := "", len(s) >= 4 && sealed(s[:len(s)-4]) == s
	if some {
		text = s[:len(s)-4]
	}
	if got, ok := Open(s); got != text || ok != some {
		t.Errorf("Open(%.40x): %.40x, %v; want %.40x, %v", s, got, ok, text, some)
	}
}

// P3.1, P3.2: against the library, and against single bits.
func TestSumOfSomeTexts(t *testing.T) {
	for _, s := range someTexts() {
		isSummed(t, s)
		if len(s) <= 4096 && Sum(s) != byWords(s) {
			t.Errorf("Sum(%.40x): %08X; want %08X", s, Sum(s), byWords(s))
		}
	}
}

// P3.1, P3.2, of any bytes.
func FuzzSumOfAny(f *testing.F) {
	for _, s := range samples.Texts("\x00\x80\xFFa", 2) {
		f.Add(s)
		f.Add(sealed(s))
	}
	f.Fuzz(isSummed)
}

// P3.1: the text, and behind it the sum in four bytes, the lowest one first.
func TestSeal(t *testing.T) {
	for s, want := range map[string]string{
		"": "\x00\x00\x00\x00", "123456789": "123456789\x83\x92\x06\xE3", "a": "a\x30\x43\xD0\xC1", "\x00": "\x00\x51\x53\x7D\x52",
		"\xFF": "\xFF\x00\x00\x00\xFF", "\xFF\xFF\xFF\xFF": "\xFF\xFF\xFF\xFF\xFF\xFF\xFF\xFF", "\x00\x00\x00\x00": "\x00\x00\x00\x00\xC7\x4B\x67\x48",
	} {
		if got := Seal(s); got != want {
			t.Errorf("Seal(%x): %x; want %x", s, got, want)
		}
	}
}

// P3.1: the text that is sealed there.
func TestOpen(t *testing.T) {
	for s, want := range map[string]string{
		"\x00\x00\x00\x00": "", "123456789\x83\x92\x06\xE3": "123456789", "a\x30\x43\xD0\xC1": "a",
		"\xFF\x00\x00\x00\xFF": "\xFF", "\xFF\xFF\xFF\xFF\xFF\xFF\xFF\xFF": "\xFF\xFF\xFF\xFF",
	} {
		if text, ok := Open(s); text != want || !ok {
			t.Errorf("Open(%x): %x, %v; want %x, true", s, text, ok, want)
		}
	}
}

// P3.1: fewer than four bytes, or another sum than the text's: nothing and false.
func TestOpenOfNone(t *testing.T) {
	for _, s := range []string{
		"", "\x00", "\x00\x00", "\x00\x00\x00", "a", "abc", "\xFF\xFF\xFF",
		"\x01\x00\x00\x00", "\x00\x01\x00\x00", "\x00\x00\x01\x00", "\x00\x00\x00\x01", "\x00\x00\x00\x80", "\xFF\xFF\xFF\xFF", "abcd",
		"\x00\x00\x00\x00\x00", "a\x00\x00\x00\x00", "\x00\x00\x00\x00a", "\x00\x00\x00\x00\x00\x00\x00\x00",
		"123456789", "123456789\x83\x92\x06", "123456789\x83\x92\x06\xE3\x00", "\x00123456789\x83\x92\x06\xE3",
		"123456789\xE3\x06\x92\x83", "123456789\x7C\x6D\xF9\x1C", "123456789\x00\x00\x00\x00", "123456780\x83\x92\x06\xE3", "\x83\x92\x06\xE3123456789",
	} {
		if text, ok := Open(s); text != "" || ok {
			t.Errorf("Open(%x): %x, %v; want nothing, false", s, text, ok)
		}
	}
}

// P3.2: of a text's four bytes behind it, all but one are no sum of it.
func TestOneSumOfAText(t *testing.T) {
	for _, s := range samples.Texts("\x00\xFFa", 2) {
		for i := range 4 {
			for b := range 256 {
				other := []byte(sealed(s))
				same := other[len(s)+i] == byte(b)
				other[len(s)+i] = byte(b)
				if _, ok := Open(string(other)); ok != same {
					t.Errorf("Open(%x): %v", other, ok)
				}
			}
		}
	}
}

// P3.2: what is cut off, or has more behind or ahead of it, opens just where the library says so; sealed twice, it opens twice.
func TestNothingElseOpens(t *testing.T) {
	for _, s := range samples.Texts("\x00\x01\xFFa", 4) {
		whole := sealed(s)
		for i := range len(whole) {
			isSummed(t, whole[:i])
			isSummed(t, whole[i:])
		}
		for _, more := range []string{"\x00", "\xFF", "a", "\x00\x00\x00\x00"} {
			isSummed(t, whole+more)
			isSummed(t, more+whole)
		}
		once, ok := Open(Seal(Seal(s)))
		twice, both := Open(once)
		if once != whole || twice != s || !ok || !both {
			t.Errorf("Open, twice, of %x, sealed twice: %x, %v, then %x, %v", s, once, ok, twice, both)
		}
	}
}

// isAnother holds that a text and the one that was turned over have sums that differ, and that no turned one opens.
func isAnother(t *testing.T, s string, bits uint32) {
	sum := Sum(s)
	for place := 0; place+4 <= len(s); place++ {
		if other := samples.Turned(s, place, bits); Sum(other) == sum {
			t.Errorf("Sum(%x) and Sum(%x): %08X, both", s, other, sum)
		}
	}
	whole := Seal(s)
	for place := 0; place+4 <= len(whole); place++ {
		if text, ok := Open(samples.Turned(whole, place, bits)); text != "" || ok {
			t.Errorf("Open of %x, sealed, and from %d on turned over by %x: %x, %v", s, place, bits, text, ok)
		}
	}
}

// P3.2: bits within four bytes, side by side, in the text, in its sum, or over both.
func TestTurnedOver(t *testing.T) {
	for _, bits := range samples.Patterns() {
		for _, s := range []string{"", "a", "\x00\x00", "abc", "\x00\x00\x00\x00", "\xFF\xFF\xFF\xFF", "12345678", "consignor\x00\x80\xFF"} {
			isAnother(t, s, bits)
		}
	}
}

// P3.2: so it is in short texts of few bits each, with the bits round about the end.
func TestTurnedOverNearTheEnd(t *testing.T) {
	for _, s := range []string{"\x00", "a", "ab", "abc", "abcd", strings.Repeat("z", 300)} {
		for place := max(0, len(s)-4); place < len(s); place++ {
			for b := 1; b < 256; b++ {
				other := []byte(s)
				other[place] ^= byte(b)
				if Sum(string(other)) == Sum(s) {
					t.Errorf("Sum(%.40x) and Sum(%.40x): %08X, both", s, other, Sum(s))
				}
			}
		}
	}
}

// R2: asked again, the same is answered, whatever was asked between.
func TestSameAgain(t *testing.T) {
	for _, s := range samples.Texts("\x00\x80\xFFa", 3) {
		sum, whole := Sum(s), Seal(s)
		text, ok := Open(whole)
		Sum("other")
		Seal("\xFF")
		Open("\x00\x00\x00")
		again, still := Open(Seal(s))
		if Sum(s) != sum || Seal(s) != whole || again != text || still != ok {
			t.Errorf("%x: %08X, %x, %x, %v; then another", s, sum, whole, text, ok)
		}
	}
}
