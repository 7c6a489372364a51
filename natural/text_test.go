package natural_test

import (
	"math/big"
	"math/rand"
	"strings"
	"testing"

	"robotics/api"
	"robotics/natural"
)

// P1.5

func TestFormat(t *testing.T) {
	for _, x := range []struct {
		a    api.Nat
		want string
	}{
		{nat(), "0"},
		{nat(7), "7"},
		{nat(10), "10"},
		{nat(999999999), "999999999"},
		{nat(1000000000), "1000000000"},
		{nat(1000000001), "1000000001"},
		{nat(top), "4294967295"},
		{nat(0, 1), "4294967296"},
		{nat(0, 0, 1), "18446744073709551616"},
		{natural.Of(1000000000000000000), "1000000000000000000"},
	} {
		if got := natural.Format(x.a); got != x.want {
			t.Errorf("Format(%v) = %q", x.a, got)
		}
	}
	r := rand.New(rand.NewSource(4))
	for _, a := range append(numbers(), randomNat(r, 300), randomNat(r, 300)) {
		if got := natural.Format(a); got != bigOf(a).String() {
			t.Errorf("Format(%v) = %q", a, got)
		}
	}
}

func TestParse(t *testing.T) {
	for _, s := range []string{
		"0", "1", "9", "10", "999999999", "1000000000", "100000000000000000000",
		"4294967295", "4294967296", "18446744073709551615", "18446744073709551616",
		strings.Repeat("9", 399), strings.Repeat("9", 400), "1" + strings.Repeat("0", 399),
	} {
		want, _ := new(big.Int).SetString(s, 10)
		if got, e := natural.Parse(s); e != api.OK || !isNumber(got, want) {
			t.Errorf("Parse(%q) = %v, %v", s, got, e)
		}
	}
}

func TestParseErrors(t *testing.T) {
	long := strings.Repeat("9", 401)
	for _, x := range []struct {
		s    string
		want api.Errno
	}{
		{"", api.ErrShort},
		{long, api.ErrLong},
		{strings.Repeat("9", 5000), api.ErrLong},
		{"00", api.ErrFormat},
		{"007", api.ErrFormat},
		{"0" + strings.Repeat("9", 399), api.ErrFormat},
		{"1x", api.ErrFormat},
		{"x1", api.ErrFormat},
		{"1x1", api.ErrFormat},
		{"-1", api.ErrFormat},
		{"+1", api.ErrFormat},
		{"-", api.ErrFormat},
		{" 1", api.ErrFormat},
		{"1 ", api.ErrFormat},
		{"1\n", api.ErrFormat},
		{"1\x00", api.ErrFormat},
		{"1_0", api.ErrFormat},
		{"1.0", api.ErrFormat},
		{"0x1", api.ErrFormat},
		{"/", api.ErrFormat},
		{":", api.ErrFormat},
		{"\xff", api.ErrFormat},
		{"\u0663", api.ErrFormat},
		{strings.Repeat("9", 399) + "x", api.ErrFormat},
		// A text that is too long is so whatever its bytes are.
		{"0" + long, api.ErrLong},
		{"x" + long, api.ErrLong},
		{long + "x", api.ErrLong},
		{strings.Repeat("0", 401), api.ErrLong},
	} {
		if got, e := natural.Parse(x.s); e != x.want || len(got.W) != 0 {
			t.Errorf("Parse(%q) = %v, %v", x.s, got, e)
		}
	}
}

func TestParseOfEveryByte(t *testing.T) {
	for c := range 256 {
		want := api.ErrFormat
		if c >= '0' && c <= '9' {
			want = api.OK
		}
		if _, e := natural.Parse("1" + string([]byte{byte(c)}) + "1"); e != want {
			t.Errorf("Parse with the byte %d: %v", c, e)
		}
	}
}

// P1.7

func TestParseInvertsFormat(t *testing.T) {
	r := rand.New(rand.NewSource(5))
	all := numbers()
	for range 200 {
		all = append(all, randomNat(r, 41)) // 41 digits to the base 2^32 are at most 395 decimal ones
	}
	for _, a := range all {
		if got, e := natural.Parse(natural.Format(a)); e != api.OK || !same(got, a) {
			t.Errorf("Parse(Format(%v)) = %v, %v", a, got, e)
		}
	}
}

func TestParseInvertsFormatUpTo400Digits(t *testing.T) {
	limit := new(big.Int).Exp(big.NewInt(10), big.NewInt(400), nil)
	greatest, e := natural.Parse(limit.Sub(limit, big.NewInt(1)).String())
	if e != api.OK {
		t.Fatal(e)
	}
	if got, e := natural.Parse(natural.Format(greatest)); e != api.OK || !same(got, greatest) {
		t.Errorf("10^400 - 1: %v, %v", got, e)
	}
	if got, e := natural.Parse(natural.Format(natural.Add(greatest, nat(1)))); e != api.ErrLong || len(got.W) != 0 {
		t.Errorf("10^400: %v, %v", got, e)
	}
}

func TestFormatInvertsParse(t *testing.T) {
	r := rand.New(rand.NewSource(6))
	all := []string{"0", "1", "10", "1000000000", "1000000000000000000000000000"}
	for n := 1; n <= 400; n++ {
		s := []byte{byte('1' + r.Intn(9))}
		for len(s) < n {
			s = append(s, byte('0'+r.Intn(10)*r.Intn(2)))
		}
		all = append(all, string(s))
	}
	for _, s := range all {
		a, e := natural.Parse(s)
		if got := natural.Format(a); e != api.OK || got != s {
			t.Errorf("Format(Parse(%q)) = %q, %v", s, got, e)
		}
	}
}
