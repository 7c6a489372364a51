package fixed_test

import (
	"math/big"
	"math/rand"
	"testing"

	"robotics/api"
	"robotics/fixed"
)

// P3.10

func TestMulCommutes(t *testing.T) {
	forPairs(func(a, b int64) {
		if got, want := fixed.Mul(b, a), fixed.Mul(a, b); got != want {
			t.Errorf("Mul(%d, %d) = %d, but in the other order %d", b, a, got, want)
		}
	})
}

func TestMulChangesItsSign(t *testing.T) {
	forPairs(func(a, b int64) {
		if a == least || b == least {
			return // their negatives are no int64
		}
		n := fixed.Mul(a, b)
		if fixed.Mul(-a, b) != -n || fixed.Mul(a, -b) != -n || fixed.Mul(-a, -b) != n {
			t.Errorf("Mul(%d, %d) = %d does not change its sign with its arguments", a, b, n)
		}
	})
}

// P3.11

// sameSign reports whether a component is 0 or has the sign of the one that was scaled.
func sameSign(scaled, c int) bool {
	return scaled == 0 || (scaled < 0) == (c < 0) && c != 0
}

func TestScaleKeepsTheLimitAndTheSigns(t *testing.T) {
	forPoints(2*reach, func(p api.Point) {
		for _, most := range lengths(p) {
			n := big.NewInt(int64(max(most, 0)))
			got := fixed.Scale(p, most)
			if square(got).Cmp(n.Mul(n, n)) > 0 {
				t.Errorf("Scale(%v, %d) = %v is too long", p, most, got)
			}
			if !sameSign(got.X, p.X) || !sameSign(got.Y, p.Y) {
				t.Errorf("Scale(%v, %d) = %v has other signs", p, most, got)
			}
			if length := fixed.Length(got); length > max(most, 0) {
				t.Errorf("Scale(%v, %d) has the length %d", p, most, length)
			}
		}
	})
}

// P3.12

func expectNear(t *testing.T, a int64) {
	t.Helper()
	if d := parsed(t, fixed.Format(a)) - a; d < -1 || d > 1 {
		t.Errorf("Parse(Format(%d)) differs by %d", a, d)
	}
}

func TestParseNearlyInvertsFormat(t *testing.T) {
	for n := range int64(2 * one) {
		expectNear(t, n)
		expectNear(t, -n)
		expectNear(t, limit-n)
		expectNear(t, n-limit)
	}
	for _, a := range numbers() {
		if -limit <= a && a <= limit {
			expectNear(t, a)
		}
	}
	r := rand.New(rand.NewSource(8))
	for range 20000 {
		expectNear(t, r.Int63n(2*limit+1)-limit)
	}
}

// R1

// For all arguments, also those for which nothing else is promised, calls
// terminate and do not panic.
func TestAllArguments(t *testing.T) {
	all := []int64{least, least + 1, -1 << 32, -3, -1, 0, 1, 3, 3037000499, 3037000500, 1 << 32, most - 1, most}
	var points []api.Point
	for _, a := range all {
		fixed.Root(a)
		fixed.Format(a)
		for _, b := range all {
			fixed.Mul(a, b)
			fixed.Div(a, b)
			points = append(points, api.Point{X: int(a), Y: int(b)})
			for _, c := range all {
				fixed.Clamp(a, b, c)
			}
		}
	}
	for _, p := range points {
		fixed.Length(p)
		for _, most := range all {
			fixed.Scale(p, int(most))
		}
		for _, q := range points {
			fixed.Distance(p, q)
			fixed.Add(p, q)
			fixed.Sub(p, q)
			fixed.Dot(p, q)
		}
	}
}

func TestAllTexts(t *testing.T) {
	r := rand.New(rand.NewSource(9))
	for range 50000 {
		s := make([]byte, r.Intn(20))
		for i := range s {
			s[i] = "0123456789.-"[r.Intn(12)]
			if r.Intn(8) == 0 {
				s[i] = byte(r.Intn(256))
			}
		}
		if n, e := fixed.Parse(string(s)); e != api.OK && n != 0 {
			t.Errorf("Parse(%q) = %d, %v", s, n, e)
		}
	}
}
