// Package samples makes what the layers' tests go through; no layer calls it.
package samples

import "strings"

// Texts are all those of up to so many of some bytes, the shortest first.
func Texts(letters string, most int) []string {
	l := []string{""}
	for from := 0; most > 0; most-- {
		upTo := len(l)
		for _, s := range l[from:upTo] {
			for i := range len(letters) {
				l = append(l, s+letters[i:i+1])
			}
		}
		from = upTo
	}
	return l
}

// Turned is a text some bits of which, within four bytes from a place on, are turned over.
func Turned(s string, place int, bits uint32) string {
	other := []byte(s)
	for i := range 4 {
		if b := byte(bits >> (8 * i)); b != 0 {
			other[place+i] ^= b
		}
	}
	return string(other)
}

// Patterns are bits within four bytes: each one, each two, all in a row from each to each, what CRC-32C itself is made of, and mixed ones.
func Patterns() []uint32 {
	l := []uint32{0x82F63B78, 0x05EC76F1, 0xFFFFFFFF, 0x80000001, 0xAAAAAAAA, 0x55555555}
	for i := range 32 {
		for j := i; j < 32; j++ {
			l = append(l, 1<<i|1<<j, ^uint32(0)<<i&(^uint32(0)>>(31-j)))
		}
	}
	mixed := uint32(32)
	for range 500 {
		mixed = mixed*1664525 + 1013904223
		l = append(l, mixed|1)
	}
	return l
}

// Choices are what may stand in places, a list for each.
type Choices [][]string

// Each goes through all texts that have one of each list, in the order of the lists.
func (l Choices) Each(do func(text string)) {
	if len(l) == 0 {
		do("")
		return
	}
	for _, one := range l[0] {
		l[1:].Each(func(rest string) { do(one + rest) })
	}
}

// Quoted is rows as CSV, where fields that are chosen are in quotes, though they need not be.
func Quoted(table [][]string, quote func(field string) bool) string {
	text := ""
	for _, row := range table {
		for i, field := range row {
			if i > 0 {
				text += ","
			}
			if quote(field) {
				field = `"` + strings.ReplaceAll(field, `"`, `""`) + `"`
			}
			text += field
		}
		text += "\n"
	}
	return text
}

// NotNumbers are texts that look like a number, and are none as an amount is put, or one beyond int64.
func NotNumbers() []string {
	return []string{
		"", " ", "x", "-", "+", "-0", "+1", "+4", " 1", "1 ", " 4", "4 ", "01", "04", "007", "00", "-01", "--1",
		"1.", "1.0", ".5", "1e2", "1e0", "0x1", "0b1", "1_0", "1x", "x1", "1,", "1,0", "1\n", "\n1", "1\r", "\"1\"", "\x00", "1\x00", "\x001", "\xFF", "１", "٣", "②", "one", "nil", "NaN",
		"9223372036854775808", "-9223372036854775809", "18446744073709551617", "18446744073709551620", "99999999999999999999999999",
	}
}

// Names are texts that are a name of an order's, or nearly one, or none.
func Names() []string {
	l := []string{
		"", "a", "z", "A", "Z", "0", "9", "-", "_", "--", "__", "-_-", "nut", "R-1", "a b", " a", "a ", "a\n", "\na", "a\x00", "\x00", "\x00a", ".", "a.b", "a,b", "a/b", "a:b", "a+b", "@", "[", "`", "{", "/", "\x7F",
		// Letters and digits that are none of the chapter's, and runes whose lowest byte is one of them.
		"é", "ſ", "K", "Ａ", "０", "١", "–", "＿", "Ł", "\U00010041", "š", "aŁ", "Ła", "日", "ａb",
		"\xFF", "\x80", "\xC1\x81", "a\xFF", "\xFFa", "\xE2\x84", "\uFFFD", "\xED\xA0\x80",
		"abcdefgh", "abcdefghi", "abcdefg", "abcdefgé", "abcdefé", "éééé", "ééééé", "abcdefg ", "abcdefgh ", "ABCDEFGHIJKLMNOP", "ABCDEFGHIJKLMNOPQ", "0123456789-_abc", "0123456789-_ab.", "0123456789-_abcd", "0123456789-_abc.", "éééééééé", "ééééééééé", "éééééééééééééééé", "日日日日日", "日日日日日日",
	}
	for _, size := range []int{100, 127, 128, 256 + 3, 16384, 65536, 1<<20 + 3} {
		l = append(l, strings.Repeat("a", size), strings.Repeat("é", size/2))
	}
	return l
}
