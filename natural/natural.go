// Package natural: arbitrary-precision natural numbers. See shared/doc/01-natural.md.
package natural

import (
	"cmp"
	"math/bits"
	"slices"

	"robotics/api"
)

// Of returns the natural number n.
func Of(n uint64) api.Nat {
	return fromDigits([]uint32{uint32(n), uint32(n >> 32)})
}

// Valid reports whether a has no leading zero digits.
func Valid(a api.Nat) bool {
	return len(trim(a.W)) == len(a.W)
}

// Cmp returns -1, 0 or 1 if a is less than, equal to or greater than b.
func Cmp(a, b api.Nat) int {
	u, v := trim(a.W), trim(b.W)
	if len(u) != len(v) {
		return cmp.Compare(len(u), len(v))
	}
	for k := range len(u) {
		i := len(u) - 1 - k
		if u[i] != v[i] {
			return cmp.Compare(u[i], v[i])
		}
	}
	return 0
}

// Add returns a + b.
func Add(a, b api.Nat) api.Nat {
	u, v := trim(a.W), trim(b.W)
	if len(u) < len(v) {
		u, v = v, u
	}
	sum := append(u, 0)
	addTo(sum, v)
	return fromDigits(sum)
}

// Sub returns a - b, or false if b is greater than a.
func Sub(a, b api.Nat) (api.Nat, bool) {
	if Cmp(a, b) < 0 {
		return api.Nat{}, false
	}
	rest := slices.Clone(trim(a.W))
	subtractFrom(rest, trim(b.W))
	return fromDigits(rest), true
}

// Mul returns a * b.
func Mul(a, b api.Nat) api.Nat {
	u, v := trim(a.W), trim(b.W)
	product := make([]uint32, len(u)+len(v))
	for i, digit := range u {
		product[i+len(v)] = addTimes(product[i:i+len(v)], v, digit)
	}
	return fromDigits(product)
}

// Bits returns the number of binary digits of a; 0 for 0.
func Bits(a api.Nat) int {
	w := trim(a.W)
	if len(w) == 0 {
		return 0
	}
	return 32*(len(w)-1) + bits.Len32(w[len(w)-1])
}

// trim returns w without leading zeros. Its capacity is its length, so that
// what is appended to it goes to new memory and not into that of an argument.
func trim(w []uint32) []uint32 {
	n := len(w)
	for n > 0 && w[n-1] == 0 {
		n--
	}
	return w[:n:n]
}

func fromDigits(w []uint32) api.Nat {
	return api.Nat{W: trim(w)}
}

// addTo adds v to sum, which has at least as many digits, and drops the last carry.
func addTo(sum, v []uint32) {
	var carry uint32
	for i := range len(sum) {
		var digit uint32
		if i < len(v) {
			digit = v[i]
		}
		sum[i], carry = bits.Add32(sum[i], digit, carry)
	}
}

// subtractFrom subtracts v from rest, which is not less and has at least as many digits.
func subtractFrom(rest, v []uint32) {
	var borrow uint32
	for i := range len(rest) {
		var digit uint32
		if i < len(v) {
			digit = v[i]
		}
		rest[i], borrow = bits.Sub32(rest[i], digit, borrow)
	}
}

// addTimes adds v times factor to sum, which has as many digits as v, and returns the carry.
func addTimes(sum, v []uint32, factor uint32) uint32 {
	var carry uint64
	for i, digit := range v {
		// The greatest value is (2^32-1)^2 + 2(2^32-1) = 2^64-1: no overflow.
		carry += uint64(digit)*uint64(factor) + uint64(sum[i])
		sum[i] = uint32(carry)
		carry >>= 32
	}
	return uint32(carry)
}
