package fixed_test

import (
	"math/big"
	"math/rand"
	"testing"

	"robotics/api"
	"robotics/fixed"
)

// P3.1

func TestMulExamples(t *testing.T) {
	for _, x := range []struct{ a, b, want int64 }{
		{one, one, one},
		{2 * one, 3 * one, 6 * one},
		{98304, -1, -2},
		{0, most, 0},
		{least, 0, 0},
		// Halves, and the products next to them.
		{32768, 1, 1},
		{-32768, 1, -1},
		{32768, -1, -1},
		{-32768, -1, 1},
		{32767, 1, 0},
		{-32767, 1, 0},
		{32769, 1, 1},
		{-32769, 1, -1},
		{32768, 3, 2},
		{-32768, 3, -2},
		{32768, 5, 3},
		{-32768, 5, -3},
		{98303, 1, 1},
		{-98303, 1, -1},
		{98305, 1, 2},
		// The limits, and the numbers next to them.
		{limit, one, limit},
		{limit - 1, one, limit - 1},
		{limit + 1, one, limit},
		{-limit, one, -limit},
		{-limit + 1, one, -limit + 1},
		{-limit - 1, one, -limit},
		{2*limit - 1, 32768, limit},
		{2*limit - 3, 32768, limit - 1},
		{2*limit + 1, 32768, limit},
		{-2*limit + 1, 32768, -limit},
		{-2*limit + 3, 32768, -limit + 1},
		{-2*limit - 1, 32768, -limit},
		{limit, one + 1, limit},
		// Products of up to 126 bits; the first is just below 2^64.
		{1<<32 - 1, 1<<32 + 1, limit},
		{1<<32 - 1, -1<<32 - 1, -limit},
		{1 << 32, 1 << 32, limit},
		{most, most, limit},
		{most, least, -limit},
		{least, least, limit},
		{least, -1, limit},
		{least, 1, -limit},
		{most, 1, limit},
		{most, -1, -limit},
		{least, one, -limit},
	} {
		if got := fixed.Mul(x.a, x.b); got != x.want {
			t.Errorf("Mul(%d, %d) = %d, want %d", x.a, x.b, got, x.want)
		}
	}
}

func TestMul(t *testing.T) {
	forPairs(func(a, b int64) {
		if got, want := fixed.Mul(a, b), product(a, b); got != want {
			t.Errorf("Mul(%d, %d) = %d, want %d", a, b, got, want)
		}
	})
}

// P3.2

func TestDivExamples(t *testing.T) {
	for _, x := range []struct{ a, b, want int64 }{
		{1, 3, 21845},
		{2, 3, 43691},
		{-2, 3, -43691},
		{1, -131072, -1},
		{1, 131072, 1},
		{-1, 131072, -1},
		{-1, -131072, 1},
		{1, 131073, 0},
		{-1, 131073, 0},
		{1, 131071, 1},
		{-1, 131071, -1},
		{3, 131072, 2},
		{-3, 131072, -2},
		{3, 131073, 1},
		{0, 5, 0},
		{0, least, 0},
		{one, one, one},
		{-98304, one, -98304},
		// The limits, and the numbers next to them.
		{limit, one, limit},
		{limit - 1, one, limit - 1},
		{limit + 1, one, limit},
		{-limit, one, -limit},
		{-limit + 1, one, -limit + 1},
		{-limit - 1, one, -limit},
		{2*limit - 1, 131072, limit},
		{2*limit - 3, 131072, limit - 1},
		{-2*limit + 1, 131072, -limit},
		{-2*limit + 3, 131072, -limit + 1},
		{1 << 31, 1, limit},
		{1<<31 - 1, 1, limit - one},
		{1<<31 + 1, 1, limit},
		{1 << 31, -1, -limit},
		{1<<31 + 1, -1, -limit},
		{1 << 40, 1, limit},
		// Quotients about 2^64, and the extremes.
		{1 << 48, 1, limit},
		{1<<48 - 1, 1, limit},
		{-1 << 48, 1, -limit},
		{most, 1, limit},
		{most, -1, -limit},
		{least, 1, -limit},
		{least, -1, limit},
		{least, least, one},
		{most, least, -one},
		{least, most, -one},
		{most, most, one},
		{1, least, 0},
		{1, most, 0},
		{1 << 46, least, -1},
		{1<<46 - 1, least, 0},
		{1 << 46, most, 1},
		{1<<46 - 1, most, 0},
	} {
		if got, e := fixed.Div(x.a, x.b); got != x.want || e != api.OK {
			t.Errorf("Div(%d, %d) = %d, %v, want %d", x.a, x.b, got, e, x.want)
		}
	}
}

func TestDiv(t *testing.T) {
	forPairs(func(a, b int64) {
		if b == 0 {
			return
		}
		got, e := fixed.Div(a, b)
		if want := quotient(a, b); got != want || e != api.OK {
			t.Errorf("Div(%d, %d) = %d, %v, want %d", a, b, got, e, want)
		}
	})
}

func TestDivByZero(t *testing.T) {
	for _, a := range numbers() {
		if got, e := fixed.Div(a, 0); got != 0 || e != api.ErrDivide {
			t.Errorf("Div(%d, 0) = %d, %v", a, got, e)
		}
	}
}

// P3.3

func TestClamp(t *testing.T) {
	for _, x := range []struct{ n, low, high, want int64 }{
		{5, 1, 9, 5},
		{0, 1, 9, 1},
		{1, 1, 9, 1},
		{9, 1, 9, 9},
		{10, 1, 9, 9},
		{5, 5, 5, 5},
		{-7, -3, 3, -3},
		{least, least, most, least},
		{most, least, most, most},
		{least, -1, 1, -1},
		{most, -1, 1, 1},
		// Low is above high.
		{5, 7, 3, 7},
		{2, 7, 3, 7},
		{3, 7, 3, 7},
		{7, 7, 3, 3},
		{8, 7, 3, 3},
		{0, most, least, most},
		{most, most, least, least},
		{least, most, least, most},
	} {
		if got := fixed.Clamp(x.n, x.low, x.high); got != x.want {
			t.Errorf("Clamp(%d, %d, %d) = %d, want %d", x.n, x.low, x.high, got, x.want)
		}
	}
}

// P3.4

func TestRootExamples(t *testing.T) {
	for _, x := range []struct{ n, want int64 }{
		{0, 0}, {1, 1}, {2, 1}, {3, 1}, {4, 2}, {8, 2}, {9, 3}, {99, 9}, {100, 10}, {101, 10},
		{-1, 0}, {-4, 0}, {-99, 0}, {least, 0}, {least + 1, 0},
		{1<<62 - 1, 1<<31 - 1}, {1 << 62, 1 << 31},
		{most, 3037000499}, {3037000499 * 3037000499, 3037000499}, {3037000499*3037000499 - 1, 3037000498},
	} {
		if got := fixed.Root(x.n); got != x.want {
			t.Errorf("Root(%d) = %d, want %d", x.n, got, x.want)
		}
	}
}

// expectRoot checks the root of n, which is not negative.
func expectRoot(t *testing.T, n int64) {
	t.Helper()
	want := new(big.Int).Sqrt(big.NewInt(n))
	if got := fixed.Root(n); got != want.Int64() {
		t.Errorf("Root(%d) = %d, want %d", n, got, want)
	}
}

func TestRootOfSmallNumbers(t *testing.T) {
	for n := range int64(70000) {
		expectRoot(t, n)
	}
}

func TestRootNextToSquares(t *testing.T) {
	r := rand.New(rand.NewSource(5))
	roots := []int64{1, 2, 1 << 20, 1<<24 + 1, 1<<26 + 1, 1<<31 - 1, 1 << 31, 1<<31 + 1, 3037000498, 3037000499}
	for range 20000 {
		roots = append(roots, 1+r.Int63n(3037000499))
	}
	for _, n := range roots {
		expectRoot(t, n*n-1)
		expectRoot(t, n*n)
		expectRoot(t, n*n+1)
	}
}

func TestRoot(t *testing.T) {
	for _, n := range numbers() {
		if n >= 0 {
			expectRoot(t, n)
		} else if got := fixed.Root(n); got != 0 {
			t.Errorf("Root(%d) = %d", n, got)
		}
	}
}
