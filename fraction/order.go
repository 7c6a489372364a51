package fraction

import (
	"cmp"

	"robotics/api"
	"robotics/natural"
)

// sign tells negative fractions, zero and positive ones apart.
type sign struct{ negative, zero bool }

func signOf(a api.Frac) sign {
	return sign{negative: a.Neg, zero: isZero(a.Num)}
}

// Cmp returns -1, 0 or 1.
func Cmp(a, b api.Frac) int {
	if signOf(a) != signOf(b) {
		return cmp.Compare(Sign(a), Sign(b))
	}
	u, v := product(a.Num, b.Den), product(b.Num, a.Den)
	if a.Neg {
		return natural.Cmp(v, u)
	}
	return natural.Cmp(u, v)
}

// Sign returns -1, 0 or 1.
func Sign(a api.Frac) int {
	switch s := signOf(a); {
	case s.zero:
		return 0
	case s.negative:
		return -1
	}
	return 1
}

// Floor returns the greatest integer that is not above a, or false if it is not an int64.
func Floor(a api.Frac) (int64, bool) {
	whole, rest, e := natural.DivMod(a.Num, a.Den)
	if e != api.OK {
		return 0, false
	}
	if a.Neg && !isZero(rest) {
		whole = natural.Add(whole, natural.Of(1))
	}
	return signed(a.Neg, whole)
}

// signed returns n, negated if neg is true, or false if that is not an int64.
func signed(neg bool, n api.Nat) (int64, bool) {
	if natural.Bits(n) > 64 {
		return 0, false
	}
	var low uint64
	for i, digit := range n.W {
		low |= uint64(digit) << (32 * i)
	}
	const limit = 1 << 63
	switch {
	case neg && low <= limit:
		return int64(-low), true
	case !neg && low < limit:
		return int64(low), true
	}
	return 0, false
}
