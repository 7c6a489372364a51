package natural_test

import (
	"math/big"
	"math/rand"
	"slices"
	"testing"

	"robotics/api"
	"robotics/natural"
)

const top = 1<<32 - 1

func nat(w ...uint32) api.Nat { return api.Nat{W: w} }

func same(a, b api.Nat) bool { return slices.Equal(a.W, b.W) }

// bigOf is the oracle's number of a, valid or not.
func bigOf(a api.Nat) *big.Int {
	n := new(big.Int)
	for i := len(a.W) - 1; i >= 0; i-- {
		n.Lsh(n, 32)
		n.Or(n, big.NewInt(int64(a.W[i])))
	}
	return n
}

// isNumber reports whether got is the one valid Nat of want.
func isNumber(got api.Nat, want *big.Int) bool {
	return (len(got.W) == 0 || got.W[len(got.W)-1] != 0) && bigOf(got).Cmp(want) == 0
}

// randomNat returns a valid Nat of at most length digits, many of which are extreme.
func randomNat(r *rand.Rand, length int) api.Nat {
	extremes := []uint32{0, 1, 2, 1<<31 - 1, 1 << 31, 1<<31 + 1, top - 1, top}
	w := make([]uint32, r.Intn(length+1))
	for i := range w {
		w[i] = r.Uint32()
		if r.Intn(2) == 0 {
			w[i] = extremes[r.Intn(len(extremes))]
		}
	}
	for len(w) > 0 && w[len(w)-1] == 0 {
		w = w[:len(w)-1]
	}
	return api.Nat{W: w}
}

// numbers returns valid Nats: small ones, those next to powers of 2^32, and random ones.
func numbers() []api.Nat {
	all := []api.Nat{
		nat(), nat(1), nat(2), nat(9), nat(10), nat(999999999), nat(1000000000),
		nat(1 << 31), nat(top), nat(0, 1), nat(1, 1), nat(top, 1), nat(0, 1<<31),
		nat(top, top), nat(0, 0, 1), nat(1, 0, 1), nat(0, top, 1), nat(top, 0, 1<<31),
		nat(top, top, top), nat(0, 0, 0, 1), nat(top-1, top, 0, 0, 1),
	}
	r := rand.New(rand.NewSource(1))
	for range 40 {
		all = append(all, randomNat(r, 9))
	}
	return all
}

// forPairs calls check with all pairs of numbers and with longer random pairs.
func forPairs(check func(a, b api.Nat)) {
	all := numbers()
	for _, a := range all {
		for _, b := range all {
			check(a, b)
		}
	}
	r := rand.New(rand.NewSource(2))
	for range 300 {
		check(randomNat(r, 60), randomNat(r, 40))
	}
}

// P1.1

func TestOf(t *testing.T) {
	for _, x := range []struct {
		n    uint64
		want api.Nat
	}{
		{0, nat()},
		{1, nat(1)},
		{top, nat(top)},
		{1 << 32, nat(0, 1)},
		{1<<32 + 5, nat(5, 1)},
		{1 << 63, nat(0, 1<<31)},
		{1<<64 - 1, nat(top, top)},
	} {
		if got := natural.Of(x.n); !same(got, x.want) {
			t.Errorf("Of(%d) = %v", x.n, got)
		}
	}
}

func TestValid(t *testing.T) {
	for _, a := range append(numbers(), api.Nat{W: []uint32{}}, nat(0, 7)) {
		if !natural.Valid(a) {
			t.Errorf("Valid(%v) is false", a)
		}
	}
	for _, a := range []api.Nat{nat(0), nat(0, 0), nat(1, 0), nat(top, 1, 0), nat(1, 0, 0)} {
		if natural.Valid(a) {
			t.Errorf("Valid(%v) is true", a)
		}
	}
}

func TestCmp(t *testing.T) {
	for _, x := range []struct {
		a, b api.Nat
		want int
	}{
		{nat(), nat(), 0},
		{nat(), nat(1), -1},
		{nat(1), nat(), 1},
		{nat(top), nat(0, 1), -1},
		{nat(0, 1), nat(top), 1},
		{nat(2, 1), nat(1, 2), -1},
		{nat(2, 2), nat(1, 2), 1},
		{nat(1, 2), nat(1, 2), 0},
	} {
		if got := natural.Cmp(x.a, x.b); got != x.want {
			t.Errorf("Cmp(%v, %v) = %d", x.a, x.b, got)
		}
	}
	forPairs(func(a, b api.Nat) {
		if got, want := natural.Cmp(a, b), bigOf(a).Cmp(bigOf(b)); got != want {
			t.Errorf("Cmp(%v, %v) = %d", a, b, got)
		}
	})
}

func TestBits(t *testing.T) {
	for _, x := range []struct {
		a    api.Nat
		want int
	}{
		{nat(), 0}, {nat(1), 1}, {nat(2), 2}, {nat(255), 8}, {nat(256), 9},
		{nat(top), 32}, {nat(0, 1), 33}, {nat(top, top), 64}, {nat(0, 0, 1), 65},
	} {
		if got := natural.Bits(x.a); got != x.want {
			t.Errorf("Bits(%v) = %d", x.a, got)
		}
	}
	for _, a := range numbers() {
		if got, want := natural.Bits(a), bigOf(a).BitLen(); got != want {
			t.Errorf("Bits(%v) = %d", a, got)
		}
	}
}

// P1.2

func TestArithmeticExamples(t *testing.T) {
	if got := natural.Add(nat(top), nat(1)); !same(got, nat(0, 1)) {
		t.Errorf("Add = %v", got)
	}
	if got := natural.Mul(nat(top), nat(top)); !same(got, nat(1, top-1)) {
		t.Errorf("Mul = %v", got)
	}
	if got := natural.Mul(natural.Of(1<<63), natural.Of(2)); !same(got, nat(0, 0, 1)) {
		t.Errorf("Mul = %v", got)
	}
	if got, ok := natural.Sub(nat(0, 0, 1), nat(1)); !ok || !same(got, nat(top, top)) {
		t.Errorf("Sub = %v, %v", got, ok)
	}
}

func TestAddAndMul(t *testing.T) {
	forPairs(func(a, b api.Nat) {
		x, y := bigOf(a), bigOf(b)
		if got := natural.Add(a, b); !isNumber(got, new(big.Int).Add(x, y)) {
			t.Errorf("Add(%v, %v) = %v", a, b, got)
		}
		if got := natural.Mul(a, b); !isNumber(got, new(big.Int).Mul(x, y)) {
			t.Errorf("Mul(%v, %v) = %v", a, b, got)
		}
	})
}

func TestSub(t *testing.T) {
	forPairs(func(a, b api.Nat) {
		want := new(big.Int).Sub(bigOf(a), bigOf(b))
		got, ok := natural.Sub(a, b)
		if want.Sign() < 0 {
			if ok || len(got.W) != 0 {
				t.Errorf("Sub(%v, %v) = %v, %v below 0", a, b, got, ok)
			}
			return
		}
		if !ok || !isNumber(got, want) {
			t.Errorf("Sub(%v, %v) = %v, %v", a, b, got, ok)
		}
	})
}

// P1.3

func TestDivModExamples(t *testing.T) {
	for _, x := range []struct{ a, b, q, r api.Nat }{
		{nat(17), nat(5), nat(3), nat(2)},
		{nat(), nat(5), nat(), nat()},
		{nat(4), nat(5), nat(), nat(4)},
		{nat(5), nat(5), nat(1), nat()},
		{nat(1, 2), nat(1), nat(1, 2), nat()},
		{nat(0, 1), nat(2), nat(1 << 31), nat()},
		{nat(3, 1), nat(0, 1), nat(1), nat(3)},
		{nat(7, 1), nat(0, 0, 1), nat(), nat(7, 1)},
	} {
		if q, r, e := natural.DivMod(x.a, x.b); e != api.OK || !same(q, x.q) || !same(r, x.r) {
			t.Errorf("DivMod(%v, %v) = %v, %v, %v", x.a, x.b, q, r, e)
		}
	}
}

func TestDivModByZero(t *testing.T) {
	for _, a := range numbers() {
		if q, r, e := natural.DivMod(a, nat()); e != api.ErrDivide || len(q.W) != 0 || len(r.W) != 0 {
			t.Errorf("DivMod(%v, 0) = %v, %v, %v", a, q, r, e)
		}
	}
}

func checkDivMod(t *testing.T, a, b api.Nat) {
	t.Helper()
	if len(b.W) == 0 {
		return
	}
	wantQ, wantR := new(big.Int).QuoRem(bigOf(a), bigOf(b), new(big.Int))
	q, r, e := natural.DivMod(a, b)
	if e != api.OK || !isNumber(q, wantQ) || !isNumber(r, wantR) {
		t.Errorf("DivMod(%v, %v) = %v, %v, %v", a, b, q, r, e)
	}
}

func TestDivMod(t *testing.T) {
	forPairs(func(a, b api.Nat) {
		checkDivMod(t, a, b)
		product := natural.Mul(a, b)
		checkDivMod(t, product, b)
		if below, ok := natural.Sub(product, nat(1)); ok {
			checkDivMod(t, below, b)
		}
	})
}

// A digit of the quotient that is estimated too great is a rare case.
func TestDivModEstimates(t *testing.T) {
	for _, x := range [][2]api.Nat{
		{nat(0, 0, 1<<31, 1<<31-1), nat(1, 0, 1<<31)},
		{nat(0, top-1, 1<<31), nat(top, 1<<31)},
		{nat(3, 0, 1<<31), nat(1, 0, 1<<29)},
		{nat(0, 0, 0, 1<<31), nat(1, 0, 1<<31)},
		{nat(0, top-1, 0, 1<<31), nat(top, 0, 1<<31)},
		{nat(top, top, top, top-1), nat(top, top, top)},
	} {
		checkDivMod(t, x[0], x[1])
	}
}

// P1.4

func TestGcd(t *testing.T) {
	for _, x := range []struct{ a, b, want api.Nat }{
		{nat(84), nat(36), nat(12)},
		{nat(36), nat(84), nat(12)},
		{nat(), nat(), nat()},
		{nat(7, 3), nat(), nat(7, 3)},
		{nat(), nat(7, 3), nat(7, 3)},
		{nat(6), nat(3), nat(3)},
		{nat(1), nat(top, top), nat(1)},
		{nat(0, 6), nat(0, 4), nat(0, 2)},
	} {
		if got := natural.Gcd(x.a, x.b); !same(got, x.want) {
			t.Errorf("Gcd(%v, %v) = %v", x.a, x.b, got)
		}
	}
	forPairs(func(a, b api.Nat) {
		want := new(big.Int).GCD(nil, nil, bigOf(a), bigOf(b))
		if got := natural.Gcd(a, b); !isNumber(got, want) {
			t.Errorf("Gcd(%v, %v) = %v", a, b, got)
		}
	})
}

func TestGcdOfMultiples(t *testing.T) {
	r := rand.New(rand.NewSource(3))
	for range 300 {
		factor := randomNat(r, 6)
		a, b := natural.Mul(factor, randomNat(r, 12)), natural.Mul(factor, randomNat(r, 12))
		want := new(big.Int).GCD(nil, nil, bigOf(a), bigOf(b))
		if got := natural.Gcd(a, b); !isNumber(got, want) {
			t.Errorf("Gcd(%v, %v) = %v", a, b, got)
		}
	}
}
