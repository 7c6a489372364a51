package fixed_test

import (
	"math/big"
	"math/rand"
	"testing"

	"robotics/api"
	"robotics/fixed"
)

const (
	least = -1 << 63
	most  = 1<<63 - 1
	limit = 1 << 47
	one   = 65536
)

// numbers returns fixed-point numbers: small ones, those next to powers of 2, and random ones.
func numbers() []int64 {
	all := []int64{0, least, least + 1, most, most - 1}
	for k := range 63 {
		for d := int64(-1); d <= 1; d++ {
			all = append(all, 1<<k+d, -(1<<k + d))
		}
	}
	for n := int64(3); n < 12; n++ {
		all = append(all, n, -n, n*one/2, -n*one/2)
	}
	r := rand.New(rand.NewSource(1))
	for range 60 {
		all = append(all, randomNumber(r))
	}
	return all
}

// randomNumber returns a number of a random length and sign.
func randomNumber(r *rand.Rand) int64 {
	n := int64(r.Uint64() >> (1 + r.Intn(63)))
	if r.Intn(2) == 0 {
		return -n
	}
	return n
}

// forPairs calls check with all pairs of numbers and with random ones.
func forPairs(check func(a, b int64)) {
	all := numbers()
	for _, a := range all {
		for _, b := range all {
			check(a, b)
		}
	}
	r := rand.New(rand.NewSource(2))
	for range 20000 {
		check(randomNumber(r), randomNumber(r))
	}
}

// nearest is the oracle's rounding: the integer nearest to r, halves away from zero.
func nearest(r *big.Rat) *big.Int {
	doubled := new(big.Rat).Mul(new(big.Rat).Abs(r), big.NewRat(2, 1))
	n := new(big.Int).Quo(doubled.Num(), doubled.Denom())
	n.Add(n, big.NewInt(1))
	n.Rsh(n, 1)
	if r.Sign() < 0 {
		n.Neg(n)
	}
	return n
}

// saturated is the oracle's saturation.
func saturated(n *big.Int) int64 {
	switch {
	case n.Cmp(big.NewInt(limit)) > 0:
		return limit
	case n.Cmp(big.NewInt(-limit)) < 0:
		return -limit
	}
	return n.Int64()
}

// product is the oracle's a * b / 65536.
func product(a, b int64) int64 {
	n := new(big.Int).Mul(big.NewInt(a), big.NewInt(b))
	return saturated(nearest(new(big.Rat).SetFrac(n, big.NewInt(one))))
}

// quotient is the oracle's a * 65536 / b; b is not 0.
func quotient(a, b int64) int64 {
	n := new(big.Int).Mul(big.NewInt(a), big.NewInt(one))
	return saturated(nearest(new(big.Rat).SetFrac(n, big.NewInt(b))))
}

// coordinates returns coordinates from -reach to reach: the ends, small ones, and some between.
func coordinates(reach int) []int {
	all := []int{0}
	for _, n := range []int{1, 2, 3, 4, 5, 7, 30, 40, 1000, 46341, reach/2 + 1, reach - 1, reach} {
		all = append(all, n, -n)
	}
	return all
}

// forPoints calls check with points within -reach to reach.
func forPoints(reach int, check func(p api.Point)) {
	for _, x := range coordinates(reach) {
		for _, y := range coordinates(reach) {
			check(api.Point{X: x, Y: y})
		}
	}
	r := rand.New(rand.NewSource(3))
	for range 2000 {
		check(randomPoint(r, reach))
	}
}

func randomPoint(r *rand.Rand, reach int) api.Point {
	n := 1 + r.Intn(reach)
	return api.Point{X: r.Intn(2*n+1) - n, Y: r.Intn(2*n+1) - n}
}

// forPointPairs calls check with pairs of points within -reach to reach.
func forPointPairs(reach int, check func(a, b api.Point)) {
	corners := []int{-reach, -reach + 1, -1, 0, 1, reach - 1, reach}
	var all []api.Point
	for _, x := range corners {
		for _, y := range corners {
			all = append(all, api.Point{X: x, Y: y})
		}
	}
	for _, a := range all {
		for _, b := range all {
			check(a, b)
		}
	}
	r := rand.New(rand.NewSource(4))
	for range 2000 {
		check(randomPoint(r, reach), randomPoint(r, reach))
	}
}

// square is the oracle's X * X + Y * Y.
func square(p api.Point) *big.Int {
	x, y := big.NewInt(int64(p.X)), big.NewInt(int64(p.Y))
	return x.Add(x.Mul(x, x), y.Mul(y, y))
}

// rootUp is the least integer whose square is at least n.
func rootUp(n *big.Int) *big.Int {
	root := new(big.Int).Sqrt(n)
	if new(big.Int).Mul(root, root).Cmp(n) < 0 {
		root.Add(root, big.NewInt(1))
	}
	return root
}

// parsed returns the number with this text, which must exist.
func parsed(t *testing.T, s string) int64 {
	t.Helper()
	n, e := fixed.Parse(s)
	if e != api.OK {
		t.Errorf("Parse(%q): %v", s, e)
	}
	return n
}
