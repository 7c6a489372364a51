package natural

import (
	"math/bits"
	"slices"

	"robotics/api"
)

const maxDigit = 1<<32 - 1

// DivMod returns the quotient and the remainder.
func DivMod(a, b api.Nat) (q, r api.Nat, e api.Errno) {
	u, v := trim(a.W), trim(b.W)
	if len(v) == 0 {
		return api.Nat{}, api.Nat{}, api.ErrDivide
	}
	quotient, rest := divide(u, v)
	return fromDigits(quotient), fromDigits(rest), api.OK
}

// Gcd returns the greatest common divisor; Gcd(0, 0) is 0.
func Gcd(a, b api.Nat) api.Nat {
	u, v := trim(a.W), trim(b.W)
	for len(v) > 0 {
		_, rest := divide(u, v)
		u, v = v, trim(rest)
	}
	return fromDigits(slices.Clone(u))
}

// divide divides u by v, both without leading zeros and v not 0. The results
// are new memory and can have leading zeros.
func divide(u, v []uint32) (quotient, rest []uint32) {
	if len(u) < len(v) {
		return nil, slices.Clone(u)
	}
	if len(v) > 1 {
		return divideLong(u, v)
	}
	quotient = slices.Clone(u)
	digit := divideByDigit(quotient, v[0])
	return quotient, []uint32{digit}
}

// divideByDigit divides w by divisor in place and returns the remainder.
func divideByDigit(w []uint32, divisor uint32) uint32 {
	var rest uint32
	for k := range len(w) {
		i := len(w) - 1 - k
		w[i], rest = bits.Div32(rest, w[i], divisor)
	}
	return rest
}

// divideLong divides u by v, which has at least two digits and not more than u.
// It is long division as in Knuth's Algorithm D: a shift makes the leading
// digit of v at least 2^31, so that each digit of the quotient is estimated
// from the leading digits with an error of at most 1.
func divideLong(u, v []uint32) (quotient, rest []uint32) {
	n := len(v)
	shift := bits.LeadingZeros32(v[n-1])
	divisor := shiftUp(v, shift)[:n:n]
	rest = shiftUp(u, shift)
	quotient = make([]uint32, len(rest)-n)
	for k := range len(quotient) {
		i := len(quotient) - 1 - k
		quotient[i] = divideStep(rest[i:i+n+1], divisor)
	}
	return quotient, shiftDown(rest[:n:n], shift)
}

// divideStep divides part, which has one digit more than divisor, in place
// by divisor and returns the quotient, which has one digit.
func divideStep(part, divisor []uint32) uint32 {
	digit := estimate(part, divisor)
	if subtractTimes(part, divisor, digit) != 0 {
		digit--
		addTo(part, divisor)
	}
	return digit
}

// estimate returns the digit part / divisor, or one more.
func estimate(part, divisor []uint32) uint32 {
	n := len(divisor)
	lead, next := uint64(divisor[n-1]), uint64(divisor[n-2])
	top := uint64(part[n])<<32 | uint64(part[n-1])
	digit, rest := top/lead, top%lead
	for rest <= maxDigit && (digit > maxDigit || digit*next > rest<<32|uint64(part[n-2])) {
		digit--
		rest += lead
	}
	return uint32(digit)
}

// subtractTimes subtracts v times factor from rest, which has one digit more
// than v, and returns the borrow.
func subtractTimes(rest, v []uint32, factor uint32) uint32 {
	var carry uint64
	var borrow uint32
	for i, digit := range v {
		carry += uint64(digit) * uint64(factor)
		rest[i], borrow = bits.Sub32(rest[i], uint32(carry), borrow)
		carry >>= 32
	}
	rest[len(v)], borrow = bits.Sub32(rest[len(v)], uint32(carry), borrow)
	return borrow
}

// shiftUp returns w times 2^shift with one digit more; shift is less than 32.
func shiftUp(w []uint32, shift int) []uint32 {
	shifted := make([]uint32, 0, len(w)+1)
	var low uint32
	for _, digit := range w {
		shifted = append(shifted, digit<<shift|low)
		low = digit >> (32 - shift)
	}
	return append(shifted, low)
}

// shiftDown returns w divided by 2^shift; shift is less than 32.
func shiftDown(w []uint32, shift int) []uint32 {
	shifted := make([]uint32, len(w))
	var high uint32
	for k := range len(w) {
		i := len(w) - 1 - k
		shifted[i] = w[i]>>shift | high
		high = w[i] << (32 - shift)
	}
	return shifted
}
