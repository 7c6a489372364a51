package fixed_test

import (
	"math/big"
	"testing"

	"robotics/api"
	"robotics/fixed"
)

const (
	reach = api.MaxReach
	far   = 1 << 40 // the coordinates for which Add and Sub are promised
)

// P3.5

func TestLengthExamples(t *testing.T) {
	for _, x := range []struct {
		p    api.Point
		want int
	}{
		{api.Point{}, 0},
		{api.Point{X: 3, Y: -4}, 5},
		{api.Point{X: -3, Y: 4}, 5},
		{api.Point{X: 1, Y: 1}, 1},
		{api.Point{X: 2, Y: 2}, 2},
		{api.Point{X: 0, Y: -7}, 7},
		{api.Point{X: reach, Y: 0}, reach},
		{api.Point{X: 0, Y: -reach}, reach},
		{api.Point{X: reach, Y: -reach}, 1482910},
		{api.Point{X: -reach, Y: reach}, 1482910},
	} {
		if got := fixed.Length(x.p); got != x.want {
			t.Errorf("Length(%v) = %d, want %d", x.p, got, x.want)
		}
	}
}

func TestLength(t *testing.T) {
	forPoints(reach, func(p api.Point) {
		if got, want := fixed.Length(p), new(big.Int).Sqrt(square(p)); int64(got) != want.Int64() {
			t.Errorf("Length(%v) = %d, want %d", p, got, want)
		}
	})
}

func TestDistanceExamples(t *testing.T) {
	for _, x := range []struct {
		a, b api.Point
		want int
	}{
		{api.Point{X: 1, Y: 1}, api.Point{X: 2, Y: 2}, 1},
		{api.Point{X: 1, Y: 1}, api.Point{X: 1, Y: 1}, 0},
		{api.Point{X: 1, Y: 2}, api.Point{X: 4, Y: -2}, 5},
		{api.Point{X: -reach}, api.Point{X: reach}, 2 * reach},
		{api.Point{X: -reach, Y: -reach}, api.Point{X: reach, Y: reach}, 2965820},
		{api.Point{X: reach, Y: -reach}, api.Point{X: -reach, Y: reach}, 2965820},
	} {
		if got := fixed.Distance(x.a, x.b); got != x.want {
			t.Errorf("Distance(%v, %v) = %d, want %d", x.a, x.b, got, x.want)
		}
	}
}

func TestDistance(t *testing.T) {
	forPointPairs(reach, func(a, b api.Point) {
		want := new(big.Int).Sqrt(square(api.Point{X: a.X - b.X, Y: a.Y - b.Y}))
		if got := fixed.Distance(a, b); int64(got) != want.Int64() {
			t.Errorf("Distance(%v, %v) = %d, want %d", a, b, got, want)
		}
	})
}

// P3.6

func TestScaleExamples(t *testing.T) {
	for _, x := range []struct {
		p    api.Point
		most int
		want api.Point
	}{
		{api.Point{X: 30, Y: -40}, 10, api.Point{X: 6, Y: -8}},
		{api.Point{X: -30, Y: 40}, 10, api.Point{X: -6, Y: 8}},
		{api.Point{X: 1, Y: 1}, 1, api.Point{}},
		{api.Point{X: -1, Y: -1}, 1, api.Point{}},
		// Exactly as long as most, and next to it.
		{api.Point{X: 3, Y: 4}, 5, api.Point{X: 3, Y: 4}},
		{api.Point{X: 3, Y: 4}, 6, api.Point{X: 3, Y: 4}},
		{api.Point{X: 3, Y: 4}, 4, api.Point{X: 2, Y: 3}},
		{api.Point{X: -3, Y: -4}, 4, api.Point{X: -2, Y: -3}},
		{api.Point{X: 0, Y: -7}, 7, api.Point{X: 0, Y: -7}},
		{api.Point{X: 0, Y: -7}, 6, api.Point{X: 0, Y: -6}},
		{api.Point{X: 3, Y: 5}, 5, api.Point{X: 2, Y: 4}},
		{api.Point{X: 3, Y: 5}, 6, api.Point{X: 3, Y: 5}},
		// 0, and negative numbers.
		{api.Point{X: 3, Y: 4}, 0, api.Point{}},
		{api.Point{X: 3, Y: 4}, -1, api.Point{}},
		{api.Point{X: 3, Y: 4}, -5, api.Point{}},
		{api.Point{X: -3, Y: 4}, -100, api.Point{}},
		{api.Point{X: 3, Y: 4}, least, api.Point{}},
		{api.Point{}, 0, api.Point{}},
		{api.Point{}, -5, api.Point{}},
		{api.Point{}, 5, api.Point{}},
		// Numbers whose squares do not fit into an int.
		{api.Point{X: 3, Y: 4}, 1 << 32, api.Point{X: 3, Y: 4}},
		{api.Point{X: 3, Y: 4}, 3037000500, api.Point{X: 3, Y: 4}},
		{api.Point{X: reach, Y: reach}, most, api.Point{X: reach, Y: reach}},
		// The limits of the coordinates.
		{api.Point{X: 2 * reach, Y: -2 * reach}, 2965821, api.Point{X: 2 * reach, Y: -2 * reach}},
		{api.Point{X: 2 * reach, Y: -2 * reach}, 2965820, api.Point{X: 2097151, Y: -2097151}},
		{api.Point{X: 2 * reach, Y: 0}, reach, api.Point{X: reach, Y: 0}},
		{api.Point{X: 0, Y: -2 * reach}, 2*reach - 1, api.Point{X: 0, Y: -2*reach + 1}},
	} {
		if got := fixed.Scale(x.p, x.most); got != x.want {
			t.Errorf("Scale(%v, %d) = %v, want %v", x.p, x.most, got, x.want)
		}
	}
}

// lengths returns numbers to which p is scaled.
func lengths(p api.Point) []int {
	up := int(rootUp(square(p)).Int64())
	return []int{least, -5, -1, 0, 1, 2, 10, 4096, up / 2, up - 1, up, up + 1, reach, 2 * reach, 1 << 32, most}
}

// scaled is the oracle's Scale.
func scaled(p api.Point, most int) api.Point {
	n := big.NewInt(int64(max(most, 0)))
	if square(p).Cmp(new(big.Int).Mul(n, n)) <= 0 {
		return p
	}
	component := func(c int) int {
		product := new(big.Int).Mul(big.NewInt(int64(c)), n)
		return int(product.Quo(product, rootUp(square(p))).Int64())
	}
	return api.Point{X: component(p.X), Y: component(p.Y)}
}

func TestScale(t *testing.T) {
	forPoints(2*reach, func(p api.Point) {
		for _, most := range lengths(p) {
			if got, want := fixed.Scale(p, most), scaled(p, most); got != want {
				t.Errorf("Scale(%v, %d) = %v, want %v", p, most, got, want)
			}
		}
	})
}

// P3.7

func TestAddAndSubExamples(t *testing.T) {
	for _, x := range []struct{ a, b, sum, difference api.Point }{
		{api.Point{X: 1, Y: 2}, api.Point{X: 3, Y: 5}, api.Point{X: 4, Y: 7}, api.Point{X: -2, Y: -3}},
		{api.Point{}, api.Point{}, api.Point{}, api.Point{}},
		{api.Point{X: -1, Y: 9}, api.Point{X: 1, Y: -4}, api.Point{Y: 5}, api.Point{X: -2, Y: 13}},
		{api.Point{X: far, Y: -far}, api.Point{X: far, Y: -far}, api.Point{X: 2 * far, Y: -2 * far}, api.Point{}},
		{api.Point{X: far, Y: -far}, api.Point{X: -far, Y: far}, api.Point{}, api.Point{X: 2 * far, Y: -2 * far}},
	} {
		if got := fixed.Add(x.a, x.b); got != x.sum {
			t.Errorf("Add(%v, %v) = %v, want %v", x.a, x.b, got, x.sum)
		}
		if got := fixed.Sub(x.a, x.b); got != x.difference {
			t.Errorf("Sub(%v, %v) = %v, want %v", x.a, x.b, got, x.difference)
		}
	}
}

func TestAddAndSub(t *testing.T) {
	forPointPairs(far, func(a, b api.Point) {
		if got := fixed.Add(a, b); got.X != a.X+b.X || got.Y != a.Y+b.Y {
			t.Errorf("Add(%v, %v) = %v", a, b, got)
		}
		if got := fixed.Sub(a, b); got.X != a.X-b.X || got.Y != a.Y-b.Y {
			t.Errorf("Sub(%v, %v) = %v", a, b, got)
		}
	})
}

func TestDot(t *testing.T) {
	for _, x := range []struct {
		a, b api.Point
		want int
	}{
		{api.Point{X: 2, Y: 3}, api.Point{X: 4, Y: -5}, -7},
		{api.Point{X: 2, Y: 3}, api.Point{X: -3, Y: 2}, 0},
		{api.Point{X: 2, Y: 3}, api.Point{}, 0},
		{api.Point{X: 7}, api.Point{Y: 7}, 0},
		{api.Point{X: -7, Y: 1}, api.Point{X: -7, Y: 1}, 50},
		{api.Point{X: reach, Y: reach}, api.Point{X: reach, Y: reach}, 1 << 41},
		{api.Point{X: reach, Y: -reach}, api.Point{X: -reach, Y: reach}, -1 << 41},
		{api.Point{X: reach, Y: reach}, api.Point{X: -reach, Y: reach}, 0},
	} {
		if got := fixed.Dot(x.a, x.b); got != x.want {
			t.Errorf("Dot(%v, %v) = %d, want %d", x.a, x.b, got, x.want)
		}
	}
	forPointPairs(reach, func(a, b api.Point) {
		if got := fixed.Dot(a, b); got != a.X*b.X+a.Y*b.Y {
			t.Errorf("Dot(%v, %v) = %d", a, b, got)
		}
	})
}
