package token

import (
	"strings"

	"minuet/api"
)

// number is told of what begins with a minus or a digit.
func number(s string) (int, int) {
	n := sign(s, "-")
	k := whole(s[n:])
	if k == 0 {
		return api.TokBad, 1
	}
	n += k
	n += fraction(s[n:])
	n += exponent(s[n:])
	return api.TokNumber, n
}

// sign tells how many bytes ahead are a sign, one of those given: one or none.
func sign(s string, signs string) int {
	if s != "" && strings.IndexByte(signs, s[0]) >= 0 {
		return 1
	}
	return 0
}

// digit: is a byte one of 0 to 9?
func digit(c byte) bool {
	return '0' <= c && c <= '9'
}

// digits counts the digits ahead.
func digits(s string) int {
	n := 0
	for n < len(s) && digit(s[n]) {
		n++
	}
	return n
}

// whole tells how long the whole number ahead is: a 0 has no more digits behind it.
func whole(s string) int {
	if strings.HasPrefix(s, "0") {
		return 1
	}
	return digits(s)
}

// fraction tells how long the point and its digits ahead are: none, if one of both lacks.
func fraction(s string) int {
	return withDigits(s, sign(s, "."))
}

// exponent tells how long the e, its sign and its digits ahead are: none, if the e or the digits lack.
func exponent(s string) int {
	n := sign(s, "eE")
	if n == 0 {
		return 0
	}
	return withDigits(s, n+sign(s[n:], "+-"))
}

// withDigits adds to what leads them, n bytes, the digits behind it: nothing is there, if one of both lacks.
func withDigits(s string, n int) int {
	k := digits(s[n:])
	if n == 0 || k == 0 {
		return 0
	}
	return n + k
}
