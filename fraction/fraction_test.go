package fraction_test

import (
	"math/big"
	"math/rand"
	"testing"

	"robotics/api"
	"robotics/fraction"
)

// P2.1

func TestMake(t *testing.T) {
	for _, x := range []struct {
		neg      bool
		num, den api.Nat
		want     api.Frac
	}{
		{true, nat(6), nat(4), api.Frac{Neg: true, Num: nat(3), Den: nat(2)}},
		{false, nat(6), nat(4), api.Frac{Num: nat(3), Den: nat(2)}},
		{false, nat(3), nat(2), api.Frac{Num: nat(3), Den: nat(2)}},
		{true, nat(8), nat(2), api.Frac{Neg: true, Num: nat(4), Den: nat(1)}},
		{false, nat(2), nat(8), api.Frac{Num: nat(1), Den: nat(4)}},
		{false, nat(), nat(1), api.Frac{Den: nat(1)}},
		{false, nat(), nat(7), api.Frac{Den: nat(1)}},
		{true, nat(), nat(1), api.Frac{Den: nat(1)}},
		{true, nat(), nat(0, 7), api.Frac{Den: nat(1)}},
		{true, nat(0, 6), nat(0, 4), api.Frac{Neg: true, Num: nat(3), Den: nat(2)}},
		{false, nat(0, 0, 1), nat(1, 1), api.Frac{Num: nat(0, 0, 1), Den: nat(1, 1)}},
		{true, nat(top, top), nat(top), api.Frac{Neg: true, Num: nat(1, 1), Den: nat(1)}},
	} {
		if got, e := fraction.Make(x.neg, x.num, x.den); e != api.OK || !same(got, x.want) {
			t.Errorf("Make(%v, %v, %v) = %v, %v", x.neg, x.num, x.den, got, e)
		}
	}
}

func TestMakeWithDenominatorZero(t *testing.T) {
	for _, num := range []api.Nat{nat(), nat(1), nat(6, 7)} {
		for _, neg := range []bool{false, true} {
			if got, e := fraction.Make(neg, num, nat()); e != api.ErrDivide || !isNone(got) {
				t.Errorf("Make(%v, %v, 0) = %v, %v", neg, num, got, e)
			}
		}
	}
}

func TestMakeReduces(t *testing.T) {
	r := rand.New(rand.NewSource(4))
	for range 500 {
		factor := randomInt(r, 5)
		num, den := new(big.Int).Mul(factor, randomInt(r, 5)), new(big.Int).Mul(factor, randomInt(r, 5))
		if den.Sign() == 0 {
			continue
		}
		want := new(big.Rat).SetFrac(num, den)
		got, e := fraction.Make(false, natOf(num), natOf(den))
		if e != api.OK || !same(got, fracOf(want)) {
			t.Errorf("Make(false, %s, %s) = %v, %v", num, den, got, e)
		}
		got, e = fraction.Make(true, natOf(num), natOf(den))
		if e != api.OK || !same(got, fracOf(want.Neg(want))) {
			t.Errorf("Make(true, %s, %s) = %v, %v", num, den, got, e)
		}
	}
}

// P2.2

// integers returns integers at and next to the limits.
func integers() []int64 {
	return []int64{
		0, 1, -1, 2, -2, -4, 5, -5, 6, 35, top, -top, top + 1, -top - 1, 1 << 62, -1 << 62,
		most, most - 1, least, least + 1,
	}
}

func TestInt(t *testing.T) {
	if got := fraction.Int(-5); !same(got, api.Frac{Neg: true, Num: nat(5), Den: nat(1)}) {
		t.Errorf("Int(-5) = %v", got)
	}
	if got := fraction.Int(0); !same(got, api.Frac{Den: nat(1)}) {
		t.Errorf("Int(0) = %v", got)
	}
	if got := fraction.Int(least); !same(got, api.Frac{Neg: true, Num: nat(0, 1<<31), Den: nat(1)}) {
		t.Errorf("Int(-2^63) = %v", got)
	}
	for _, n := range integers() {
		if got := fraction.Int(n); !same(got, fracOf(new(big.Rat).SetInt64(n))) {
			t.Errorf("Int(%d) = %v", n, got)
		}
	}
}

// P2.3

func TestRatio(t *testing.T) {
	if got, e := fraction.Ratio(6, -4); e != api.OK || !same(got, api.Frac{Neg: true, Num: nat(3), Den: nat(2)}) {
		t.Errorf("Ratio(6, -4) = %v, %v", got, e)
	}
	for _, a := range integers() {
		for _, b := range integers() {
			got, e := fraction.Ratio(a, b)
			if b == 0 {
				if e != api.ErrDivide || !isNone(got) {
					t.Errorf("Ratio(%d, 0) = %v, %v", a, got, e)
				}
				continue
			}
			want := new(big.Rat).SetFrac(big.NewInt(a), big.NewInt(b))
			if e != api.OK || !same(got, fracOf(want)) {
				t.Errorf("Ratio(%d, %d) = %v, %v", a, b, got, e)
			}
		}
	}
}

// P2.4

func TestValid(t *testing.T) {
	for _, a := range append(fractions(), api.Frac{Num: api.Nat{W: []uint32{}}, Den: nat(1)}) {
		if !fraction.Valid(a) {
			t.Errorf("Valid(%v) is false", a)
		}
	}
	for _, a := range invalid() {
		if fraction.Valid(a) {
			t.Errorf("Valid(%v) is true", a)
		}
	}
}

// invalid returns Fracs that are not valid, for every reason.
func invalid() []api.Frac {
	return []api.Frac{
		{},
		{Neg: true},
		{Num: nat(1)},
		{Neg: true, Num: nat(5, 6)},
		{Num: nat(), Den: nat(2)},
		{Num: nat(), Den: nat(0, 1)},
		{Neg: true, Num: nat(), Den: nat(1)},
		{Neg: true, Num: nat(), Den: nat(3)},
		{Num: nat(2), Den: nat(4)},
		{Neg: true, Num: nat(2), Den: nat(4)},
		{Num: nat(3), Den: nat(3)},
		{Num: nat(0, 1), Den: nat(6)},
		{Num: nat(0), Den: nat(1)},
		{Num: nat(1, 0), Den: nat(1)},
		{Num: nat(1), Den: nat(2, 0)},
		{Num: nat(1), Den: nat(0)},
		{Num: nat(1), Den: nat(0, 0)},
		{Neg: true, Num: nat(0, 0), Den: nat(0)},
	}
}

// P2.5

func TestArithmeticExamples(t *testing.T) {
	for _, x := range []struct {
		name string
		got  api.Frac
		want string
	}{
		{"Add", fraction.Add(frac("1/3"), frac("1/6")), "1/2"},
		{"Add", fraction.Add(frac("1/2"), frac("-1/2")), "0"},
		{"Add", fraction.Add(frac("-1/2"), frac("-1/3")), "-5/6"},
		{"Add", fraction.Add(frac("1/2"), frac("-2/3")), "-1/6"},
		{"Add", fraction.Add(frac("-1/2"), frac("2/3")), "1/6"},
		{"Add", fraction.Add(frac("0"), frac("-2/3")), "-2/3"},
		{"Add", fraction.Add(frac("-2/3"), frac("0")), "-2/3"},
		{"Sub", fraction.Sub(frac("1/2"), frac("3/4")), "-1/4"},
		{"Sub", fraction.Sub(frac("0"), frac("3/4")), "-3/4"},
		{"Mul", fraction.Mul(frac("2/3"), frac("3/4")), "1/2"},
		{"Mul", fraction.Mul(frac("-2/3"), frac("-3/4")), "1/2"},
		{"Mul", fraction.Mul(frac("-2/3"), frac("0")), "0"},
		{"Neg", fraction.Neg(frac("2/3")), "-2/3"},
		{"Neg", fraction.Neg(frac("-2/3")), "2/3"},
		{"Neg", fraction.Neg(frac("0")), "0"},
	} {
		if !same(x.got, frac(x.want)) {
			t.Errorf("%s: %v, want %s", x.name, x.got, x.want)
		}
	}
}

func TestAddSubMulNeg(t *testing.T) {
	forPairs(func(a, b api.Frac) {
		u, v := ratOf(a), ratOf(b)
		expect(t, fraction.Add(a, b), new(big.Rat).Add(u, v), "Add", a, b)
		expect(t, fraction.Sub(a, b), new(big.Rat).Sub(u, v), "Sub", a, b)
		expect(t, fraction.Mul(a, b), new(big.Rat).Mul(u, v), "Mul", a, b)
		expect(t, fraction.Neg(a), new(big.Rat).Neg(u), "Neg", a)
	})
}

// P2.6

func TestDiv(t *testing.T) {
	if got := quotient(t, frac("1/2"), frac("-1/4")); !same(got, frac("-2")) {
		t.Errorf("Div(1/2, -1/4) = %v", got)
	}
	if got := quotient(t, frac("0"), frac("-1/4")); !same(got, frac("0")) {
		t.Errorf("Div(0, -1/4) = %v", got)
	}
	forPairs(func(a, b api.Frac) {
		if ratOf(b).Sign() != 0 {
			expect(t, quotient(t, a, b), new(big.Rat).Quo(ratOf(a), ratOf(b)), "Div", a, b)
		}
	})
}

func TestDivByZero(t *testing.T) {
	for _, a := range fractions() {
		if got, e := fraction.Div(a, frac("0")); e != api.ErrDivide || !isNone(got) {
			t.Errorf("Div(%s, 0) = %v, %v", show(a), got, e)
		}
	}
}

// P2.9

func TestLerpExamples(t *testing.T) {
	for _, x := range []struct{ a, b, t, want string }{
		{"1", "2", "1/4", "5/4"},
		{"0", "1", "1/3", "1/3"},
		{"1", "2", "0", "1"},
		{"1", "2", "1", "2"},
		{"1", "2", "3", "4"},
		{"1", "2", "-1/2", "1/2"},
		{"-1/2", "1/2", "1/2", "0"},
		{"2", "-1", "2/3", "0"},
		{"3/7", "3/7", "-9/5", "3/7"},
	} {
		if got := fraction.Lerp(frac(x.a), frac(x.b), frac(x.t)); !same(got, frac(x.want)) {
			t.Errorf("Lerp(%s, %s, %s) = %v", x.a, x.b, x.t, got)
		}
	}
}

func TestLerp(t *testing.T) {
	forTriples(func(a, b, c api.Frac) {
		want := new(big.Rat).Sub(ratOf(b), ratOf(a))
		want.Mul(want, ratOf(c))
		want.Add(want, ratOf(a))
		expect(t, fraction.Lerp(a, b, c), want, "Lerp", a, b, c)
	})
}
