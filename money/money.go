// Package money is layer 1: see shared/doc/01-money.md.
package money

import "strings"

const (
	mostDigits = 19 // of an amount, whatever its sign
	mostWidth  = 18 // all amounts of so many digits are int64, so Unpad needs no look at the sum
)

// Add is the sum of two amounts; false: it is beyond int64.
func Add(a, b int64) (n int64, ok bool) {
	n = a + b
	// A sum that wraps round lands on the wrong side of a.
	if (n > a) != (b > 0) {
		return 0, false
	}
	return n, true
}

// Sub is the difference of two amounts; false: it is beyond int64.
func Sub(a, b int64) (n int64, ok bool) {
	// Not Add of Neg: the least amount has no Neg, but it may be taken from those below 0.
	n = a - b
	if (n < a) != (b > 0) {
		return 0, false
	}
	return n, true
}

// Neg is an amount turned about; false: it is beyond int64.
func Neg(a int64) (n int64, ok bool) { return Sub(0, a) }

// Put is an amount as a text.
func Put(n int64) string {
	size := uint64(n)
	if n >= 0 {
		return digits(size, count(size))
	}
	// The least amount has a size only where there is no sign.
	size = -size
	return "-" + digits(size, count(size))
}

// Get is the amount of a text.
func Get(s string) (n int64, ok bool) {
	tail, below := strings.CutPrefix(s, "-")
	size, ok := value(tail, mostDigits)
	if below {
		size = -size
	}
	n = int64(size)
	// Put knows what may stand there: a 0 ahead, -0 and what is beyond int64 come out otherwise.
	if !ok || Put(n) != s {
		return 0, false
	}
	return n, true
}

// Pad is an amount in so many digits.
func Pad(n int64, width int) string {
	if n < 0 || width < 1 || width > mostWidth || count(uint64(n)) > width {
		return ""
	}
	return digits(uint64(n), width)
}

// Unpad is the amount of digits.
func Unpad(s string) (n int64, ok bool) {
	size, ok := value(s, mostWidth)
	return int64(size), ok
}

// count is how many digits a number has; 0 has one.
func count(n uint64) int {
	many := 1
	for n >= 10 {
		n /= 10
		many++
	}
	return many
}

// digits is the last digits of a number, as many as width.
func digits(n uint64, width int) string {
	b := make([]byte, width)
	for i := range width {
		b[width-1-i] = '0' + byte(n%10)
		n /= 10
	}
	return string(b)
}

// value is the number of a text of digits, from one to most; false: it is none.
func value(s string, most int) (n uint64, ok bool) {
	if len(s) < 1 || len(s) > most {
		return 0, false
	}
	for i := range len(s) {
		if s[i] < '0' || s[i] > '9' {
			return 0, false
		}
		n = n*10 + uint64(s[i]-'0')
	}
	return n, true
}
