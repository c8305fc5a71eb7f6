// Package samples makes what the layers' tests go through; no layer calls it.
package samples

// Texts are all those of up to so many of some bytes, the shortest first.
func Texts(letters string, most int) []string {
	l := []string{""}
	for from := 0; most > 0; most-- {
		upTo := len(l)
		for _, s := range l[from:upTo] {
			for i := range len(letters) {
				l = append(l, s+letters[i:i+1])
			}
		}
		from = upTo
	}
	return l
}

// Turned is a text some bits of which, within four bytes from a place on, are turned over.
func Turned(s string, place int, bits uint32) string {
	other := []byte(s)
	for i := range 4 {
		if b := byte(bits >> (8 * i)); b != 0 {
			other[place+i] ^= b
		}
	}
	return string(other)
}

// Patterns are bits within four bytes: each one, each two, all in a row from each to each, what CRC-32C itself is made of, and mixed ones.
func Patterns() []uint32 {
	l := []uint32{0x82F63B78, 0x05EC76F1, 0xFFFFFFFF, 0x80000001, 0xAAAAAAAA, 0x55555555}
	for i := range 32 {
		for j := i; j < 32; j++ {
			l = append(l, 1<<i|1<<j, ^uint32(0)<<i&(^uint32(0)>>(31-j)))
		}
	}
	mixed := uint32(32)
	for range 500 {
		mixed = mixed*1664525 + 1013904223
		l = append(l, mixed|1)
	}
	return l
}
