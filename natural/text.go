package natural

import (
	"bytes"
	"slices"

	"robotics/api"
)

const maxParsed = 400

// A group is as many decimal digits as always fit into one digit of a number.
const (
	groupLength = 9
	groupLimit  = 1000000000
)

// Format returns the decimal digits of a.
func Format(a api.Nat) string {
	rest := slices.Clone(trim(a.W))
	if len(rest) == 0 {
		return "0"
	}
	var reversed []byte
	for len(rest) > 0 {
		lowest := divideByDigit(rest, groupLimit)
		rest = trim(rest)
		for range groupLength {
			reversed = append(reversed, byte('0'+lowest%10))
			lowest /= 10
		}
	}
	text := bytes.TrimRight(reversed, "0")
	slices.Reverse(text)
	return string(text)
}

// Parse returns the number with these decimal digits.
func Parse(s string) (api.Nat, api.Errno) {
	if e := check(s); e != api.OK {
		return api.Nat{}, e
	}
	var w []uint32
	for len(s) > 0 {
		// The first group is the short one: all others have their full length.
		n := (len(s)-1)%groupLength + 1
		w = timesGroupPlus(w, group(s[:n]))
		s = s[n:]
	}
	return fromDigits(w), api.OK
}

func check(s string) api.Errno {
	if len(s) == 0 {
		return api.ErrShort
	}
	if len(s) > maxParsed {
		return api.ErrLong
	}
	for i := range len(s) {
		if s[i] < '0' || s[i] > '9' {
			return api.ErrFormat
		}
	}
	if s[0] == '0' && len(s) > 1 {
		return api.ErrFormat
	}
	return api.OK
}

// group returns the number of at most groupLength decimal digits.
func group(digits string) uint32 {
	var n uint32
	for i := range len(digits) {
		n = 10*n + uint32(digits[i]-'0')
	}
	return n
}

// timesGroupPlus returns w times groupLimit plus n.
func timesGroupPlus(w []uint32, n uint32) []uint32 {
	product := make([]uint32, len(w)+1)
	product[0] = n
	product[len(w)] += addTimes(product[:len(w)], w, groupLimit)
	return product
}
