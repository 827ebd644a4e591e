package lex

import (
	"math"
	"strings"
)

// number is what a number's text says; false, if a text is none.
func number(s string) (uint32, bool) {
	if below, ok := strings.CutPrefix(s, "-"); ok {
		n, ok := plainNumber(below)
		return -n, ok && 1 <= n && n <= 1<<31
	}
	if digits, ok := strings.CutPrefix(s, "0x"); ok {
		n, ok := digitsOf(digits, 16)
		return n, ok && len(digits) <= 8
	}
	return plainNumber(s)
}

// plainNumber is what a plain number says; false, if a text is none.
func plainNumber(s string) (uint32, bool) {
	if len(s) > 1 && s[0] == '0' {
		return 0, false
	}
	return digitsOf(s, 10)
}

// digitsOf is the number that digits say to a base; false, if there are none, or others, or if it is 2^32 or more.
func digitsOf(s string, base uint64) (uint32, bool) {
	var n uint64
	for i := range len(s) {
		value := digitValue(s[i])
		if value >= base {
			return 0, false
		}
		n = n*base + value
		// Further digits would not make it less, and might wrap round.
		if n > math.MaxUint32 {
			return 0, false
		}
	}
	return uint32(n), s != ""
}

// digitValue is what a digit says, to a base of 16 or less; of another byte more than any digit does.
func digitValue(c byte) uint64 {
	switch {
	case '0' <= c && c <= '9':
		return uint64(c - '0')
	case 'a' <= c && c <= 'f':
		return uint64(c-'a') + 10
	case 'A' <= c && c <= 'F':
		return uint64(c-'A') + 10
	}
	return math.MaxUint64
}

// hexDigit is the digit that says a number below 16.
func hexDigit(n byte) byte {
	if n < 10 {
		return '0' + n
	}
	return 'a' + n - 10
}
