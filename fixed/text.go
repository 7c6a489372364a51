package fixed

import (
	"strconv"
	"strings"

	"robotics/api"
)

const (
	places   = 5  // digits after the point: all that Format writes, and the most that Parse reads
	maxWhole = 10 // digits before the point that Parse reads
)

// powers contains the powers of 10.
var powers = [places + 1]uint64{1, 10, 100, 1000, 10000, 100000}

// Format returns a fixed-point number in decimal.
func Format(a int64) string {
	n := magnitude(a)
	text := strconv.FormatUint(n/one, 10) + "." + decimals(n%one)
	if a < 0 {
		return "-" + text
	}
	return text
}

// decimals returns the digits of n / 65536 after the point; n is less than 65536.
func decimals(n uint64) string {
	scaled := n * powers[places] / one
	var digits [places]byte
	for i := range digits {
		digits[i] = byte('0' + scaled/powers[places-1-i]%10)
	}
	return string(digits[:])
}

// Parse returns the fixed-point number with this text.
func Parse(s string) (int64, api.Errno) {
	if s == "" {
		return 0, api.ErrShort
	}
	unsigned, negative := strings.CutPrefix(s, "-")
	whole, fraction, point := strings.Cut(unsigned, ".")
	if !isWhole(whole) || point && !isDigits(fraction, places) {
		return 0, api.ErrFormat
	}
	scaled := number(whole)*powers[places] + number(fraction)*powers[places-len(fraction)]
	if scaled > limit/one*powers[places] {
		return 0, api.ErrRange
	}
	return signed(negative, ratio(scaled, one, powers[places])), api.OK
}

// isWhole reports whether s is a natural number as Parse reads it.
func isWhole(s string) bool {
	return isDigits(s, maxWhole) && (s == "0" || s[0] != '0')
}

// isDigits reports whether s consists of 1 to most decimal digits.
func isDigits(s string, most int) bool {
	if s == "" || len(s) > most {
		return false
	}
	for i := range len(s) {
		if s[i] < '0' || s[i] > '9' {
			return false
		}
	}
	return true
}

// number returns the number with these decimal digits, or 0 if there are none.
func number(digits string) uint64 {
	var n uint64
	for i := range len(digits) {
		n = 10*n + uint64(digits[i]-'0')
	}
	return n
}
