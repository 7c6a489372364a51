package fraction_test

import (
	"math/big"
	"math/rand"
	"testing"

	"robotics/api"
	"robotics/fraction"
)

// P2.7

func TestCmp(t *testing.T) {
	for _, x := range []struct {
		a, b string
		want int
	}{
		{"-1/2", "1/3", -1},
		{"1/3", "-1/2", 1},
		{"1/2", "1/3", 1},
		{"-1/2", "-1/3", -1},
		{"-1/3", "-1/2", 1},
		{"0", "0", 0},
		{"0", "1/3", -1},
		{"1/3", "0", 1},
		{"0", "-1/3", 1},
		{"-1/3", "0", -1},
		{"-5/7", "-5/7", 0},
		{"5/7", "-5/7", 1},
		{"4294967295/4294967296", "4294967296/4294967297", -1},
	} {
		if got := fraction.Cmp(frac(x.a), frac(x.b)); got != x.want {
			t.Errorf("Cmp(%s, %s) = %d", x.a, x.b, got)
		}
	}
	forPairs(func(a, b api.Frac) {
		if got, want := fraction.Cmp(a, b), ratOf(a).Cmp(ratOf(b)); got != want {
			t.Errorf("Cmp(%s, %s) = %d", show(a), show(b), got)
		}
	})
}

func TestSign(t *testing.T) {
	for _, x := range []struct {
		a    string
		want int
	}{{"0", 0}, {"1", 1}, {"-1", -1}, {"1/9", 1}, {"-1/9", -1}, {power(70), 1}, {"-1/" + power(70), -1}} {
		if got := fraction.Sign(frac(x.a)); got != x.want {
			t.Errorf("Sign(%s) = %d", x.a, got)
		}
	}
	for _, a := range fractions() {
		if got, want := fraction.Sign(a), ratOf(a).Sign(); got != want {
			t.Errorf("Sign(%s) = %d", show(a), got)
		}
	}
}

// P2.8

func TestFloor(t *testing.T) {
	for _, x := range []struct {
		a    string
		want int64
		ok   bool
	}{
		{"0", 0, true},
		{"1/2", 0, true},
		{"-1/2", -1, true},
		{"7/2", 3, true},
		{"-7/2", -4, true},
		{"5", 5, true},
		{"-5", -5, true},
		{"-1/" + power(80), -1, true},
		{"9223372036854775807", most, true},
		{"18446744073709551615/2", most, true}, // 2^63 - 1/2
		{"9223372036854775808", 0, false},
		{"18446744073709551617/2", 0, false}, // 2^63 + 1/2
		{"18446744073709551615", 0, false},
		{"18446744073709551616", 0, false},
		{"18446744073709551617", 0, false},
		{power(100), 0, false},
		{"-9223372036854775807", least + 1, true},
		{"-18446744073709551613/2", least + 1, true}, // -2^63 + 3/2
		{"-18446744073709551615/2", least, true},     // -2^63 + 1/2
		{"-9223372036854775808", least, true},
		{"-18446744073709551617/2", 0, false}, // -2^63 - 1/2
		{"-9223372036854775809", 0, false},
		{"-18446744073709551615", 0, false},
		{"-36893488147419103231/2", 0, false}, // -2^64 + 1/2
		{"-18446744073709551616", 0, false},
		{"-18446744073709551617", 0, false},
		{"-" + power(100), 0, false},
	} {
		if got, ok := fraction.Floor(frac(x.a)); got != x.want || ok != x.ok {
			t.Errorf("Floor(%s) = %d, %v", x.a, got, ok)
		}
	}
}

func TestFloorOfRandomFractions(t *testing.T) {
	r := rand.New(rand.NewSource(5))
	all := fractions()
	for range 2000 {
		all = append(all, fracOf(randomRat(r, 4)))
	}
	for _, a := range all {
		u := ratOf(a)
		want := new(big.Int).Div(u.Num(), u.Denom()) // rounds down, because Denom is positive
		got, ok := fraction.Floor(a)
		if !want.IsInt64() {
			if got != 0 || ok {
				t.Errorf("Floor(%s) = %d, %v", show(a), got, ok)
			}
			continue
		}
		if got != want.Int64() || !ok {
			t.Errorf("Floor(%s) = %d, %v", show(a), got, ok)
		}
	}
}
