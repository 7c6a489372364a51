package fraction_test

import (
	"math/rand"
	"strings"
	"testing"

	"robotics/api"
	"robotics/fraction"
)

// P2.10

func TestFormat(t *testing.T) {
	for _, x := range []struct {
		a    api.Frac
		want string
	}{
		{api.Frac{Neg: true, Num: nat(3), Den: nat(4)}, "-3/4"},
		{api.Frac{Num: nat(3), Den: nat(4)}, "3/4"},
		{api.Frac{Num: nat(5), Den: nat(1)}, "5"},
		{api.Frac{Neg: true, Num: nat(5), Den: nat(1)}, "-5"},
		{api.Frac{Den: nat(1)}, "0"},
		{api.Frac{Num: nat(1), Den: nat(0, 1)}, "1/4294967296"},
		{api.Frac{Neg: true, Num: nat(0, 0, 1), Den: nat(1, 1)}, "-18446744073709551616/4294967297"},
	} {
		if got := fraction.Format(x.a); got != x.want {
			t.Errorf("Format(%v) = %q", x.a, got)
		}
	}
	for _, a := range fractions() {
		if got, want := fraction.Format(a), ratOf(a).RatString(); got != want {
			t.Errorf("Format(%v) = %q, want %q", a, got, want)
		}
	}
}

// P2.11

func TestParse(t *testing.T) {
	for _, s := range []string{"-3/4", "3/4", "5", "-5", "0", "1", "-1", "1/2", "10/21", "1/4294967296", "-18446744073709551616/3"} {
		if got, e := fraction.Parse(s); e != api.OK || !same(got, frac(s)) {
			t.Errorf("Parse(%q) = %v, %v", s, got, e)
		}
	}
}

func TestParseErrors(t *testing.T) {
	long := strings.Repeat("9", 401)
	for _, x := range []struct {
		s    string
		want api.Errno
	}{
		{"", api.ErrShort},
		{"-", api.ErrShort},
		{"/", api.ErrShort},
		{"-/", api.ErrShort},
		{"/2", api.ErrShort},
		{"-/2", api.ErrShort},
		{"1/", api.ErrShort},
		{"-1/", api.ErrShort},
		{"0/", api.ErrShort},
		{long, api.ErrLong},
		{"-" + long, api.ErrLong},
		{"1/" + long, api.ErrLong},
		{"-1/" + long, api.ErrLong},
		{"-0", api.ErrFormat},
		{"-0/3", api.ErrFormat},
		{"-0/1", api.ErrFormat},
		{"0/1", api.ErrFormat},
		{"0/2", api.ErrFormat},
		{"0/0", api.ErrFormat},
		{"1/0", api.ErrFormat},
		{"-1/0", api.ErrFormat},
		{"3/1", api.ErrFormat},
		{"-3/1", api.ErrFormat},
		{"1/1", api.ErrFormat},
		{"2/4", api.ErrFormat},
		{"-2/4", api.ErrFormat},
		{"4/2", api.ErrFormat},
		{"3/3", api.ErrFormat},
		{"1/2/3", api.ErrFormat},
		{"1//2", api.ErrFormat},
		{"1/2/", api.ErrFormat},
		{"--1", api.ErrFormat},
		{"--", api.ErrFormat},
		{"+1", api.ErrFormat},
		{"1/-2", api.ErrFormat},
		{"1/+2", api.ErrFormat},
		{"01", api.ErrFormat},
		{"1/02", api.ErrFormat},
		{"-01/2", api.ErrFormat},
		{" 1", api.ErrFormat},
		{"- 1", api.ErrFormat},
		{"1 /2", api.ErrFormat},
		{"1/ 2", api.ErrFormat},
		{"1/2\n", api.ErrFormat},
		{"1.5", api.ErrFormat},
		{"x", api.ErrFormat},
		{"1/x", api.ErrFormat},
		{"1-", api.ErrFormat},
		{"\xff", api.ErrFormat},
		// The error of the numerator comes first, then that of the denominator.
		{"/x", api.ErrShort},
		{"x/", api.ErrFormat},
		{"x/" + long, api.ErrFormat},
		{long + "/", api.ErrLong},
		{long + "/x", api.ErrLong},
		{"/" + long, api.ErrShort},
		{"-0/", api.ErrShort},
		{"-0/" + long, api.ErrLong},
		{"0/" + long, api.ErrLong},
	} {
		if got, e := fraction.Parse(x.s); e != x.want || !isNone(got) {
			t.Errorf("Parse(%q) = %v, %v", x.s, got, e)
		}
	}
}

// P2.15

func TestParseInvertsFormat(t *testing.T) {
	r := rand.New(rand.NewSource(6))
	all := fractions()
	for range 300 {
		all = append(all, fracOf(randomRat(r, 41))) // 41 digits to the base 2^32 are at most 395 decimal ones
	}
	for _, a := range all {
		if got, e := fraction.Parse(fraction.Format(a)); e != api.OK || !same(got, a) {
			t.Errorf("Parse(Format(%s)) = %v, %v", show(a), got, e)
		}
	}
}

func TestParseInvertsFormatUpTo400Digits(t *testing.T) {
	nines, zeros := strings.Repeat("9", 400), "1"+strings.Repeat("0", 399)
	for _, s := range []string{nines, "-" + nines, nines + "/" + zeros, "-" + zeros + "/" + nines, "1/" + nines} {
		a := frac(s)
		if got, e := fraction.Parse(fraction.Format(a)); e != api.OK || !same(got, a) {
			t.Errorf("Parse(Format(%s)) = %v, %v", s, got, e)
		}
	}
	next := fraction.Add(frac(nines), frac("1"))
	if got, e := fraction.Parse(fraction.Format(next)); e != api.ErrLong || !isNone(got) {
		t.Errorf("Parse of 10^400: %v, %v", got, e)
	}
}

// Every text of up to five of these bytes is refused or the text of its fraction.
func TestFormatInvertsParse(t *testing.T) {
	accepted := 0
	var visit func(s string, left int)
	visit = func(s string, left int) {
		if a, e := fraction.Parse(s); e == api.OK {
			accepted++
			if got := fraction.Format(a); got != s || !fraction.Valid(a) {
				t.Errorf("Format(Parse(%q)) = %q", s, got)
			}
		} else if !isNone(a) {
			t.Errorf("Parse(%q) = %v, %v", s, a, e)
		}
		if left == 0 {
			return
		}
		for _, c := range []string{"0", "1", "2", "6", "-", "/", "x"} {
			visit(s+c, left-1)
		}
	}
	visit("", 5)
	if accepted == 0 {
		t.Error("Parse accepts nothing")
	}
}
