// Package num is layer 1: sizes, and formatting and parsing of numbers: see shared/doc/01-num.md.
package num

import "newsreel/api"

// maxDigits is the number of digits of the greatest size, 1099511627776.
const maxDigits = 13

// Is reports whether n is a size.
func Is(n int64) bool { return n >= 0 && n <= api.MaxSize }

// Plus returns the sum of two sizes, if it is a size.
func Plus(a, b int64) (int64, bool) {
	// Checking both first keeps the addition far from the bounds of an int64.
	if !Is(a) || !Is(b) || !Is(a+b) {
		return 0, false
	}
	return a + b, true
}

// Sum returns the sum of a list of sizes, if it is a size.
func Sum(l []int64) (int64, bool) {
	total := int64(0)
	for _, n := range l {
		// No element is negative, so a partial sum that is too great stays
		// too great, and the rest of the list needs no look.
		next, ok := Plus(total, n)
		if !ok {
			return 0, false
		}
		total = next
	}
	return total, true
}

// Clamp returns n, limited to the bounds; lo comes first if the bounds cross.
func Clamp(n, lo, hi int64) int64 {
	if n < lo {
		return lo
	}
	if n > hi {
		return hi
	}
	return n
}

// Put formats n in decimal digits.
func Put(n int64) string {
	// A sign and 19 digits: the least int64 is the longest number.
	var digits [20]byte
	at := len(digits)
	rest := magnitude(n)
	for {
		at--
		digits[at] = '0' + byte(rest%10)
		rest /= 10
		if rest == 0 {
			break
		}
	}
	if n < 0 {
		at--
		digits[at] = '-'
	}
	return string(digits[at:])
}

// magnitude is unsigned because the least int64 has no positive counterpart.
func magnitude(n int64) uint64 {
	if n < 0 {
		return -uint64(n)
	}
	return uint64(n)
}

// Get parses a size.
func Get(s string) (int64, api.Errno) {
	if !wellFormed(s) {
		return 0, api.ErrText
	}
	// The length is checked ahead of the value, which could wrap round.
	if len(s) > maxDigits {
		return 0, api.ErrRange
	}
	n := value(s)
	if !Is(n) {
		return 0, api.ErrRange
	}
	return n, api.OK
}

// wellFormed reports whether s consists of digits without a leading zero.
func wellFormed(s string) bool {
	if s == "" || s[0] == '0' && len(s) > 1 {
		return false
	}
	for i := range len(s) {
		if s[i] < '0' || s[i] > '9' {
			return false
		}
	}
	return true
}

// value returns the number that at most maxDigits digits denote.
func value(digits string) int64 {
	n := int64(0)
	for i := range len(digits) {
		n = n*10 + int64(digits[i]-'0')
	}
	return n
}
