// Package samples makes what the layers' tests go through; no layer calls it.
package samples

// Texts are all those of up to so many of some bytes, the shortest first.
func Texts(letters string, most int) []string {
	l := []string{""}
	for from := 0; most > 0; most-- {
		upTo := len(l)
		for _, s := range l[from:upTo] {
			for i := range len(letters) {
				l = append(l, s+letters[i:i+1])
			}
		}
		from = upTo
	}
	return l
}
