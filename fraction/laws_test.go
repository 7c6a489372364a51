package fraction_test

import (
	"slices"
	"testing"

	"robotics/api"
	"robotics/fraction"
)

// P2.12

func TestSumsAndProductsCommute(t *testing.T) {
	forPairs(func(a, b api.Frac) {
		if !same(fraction.Add(a, b), fraction.Add(b, a)) {
			t.Errorf("Add of %s, %s does not commute", show(a), show(b))
		}
		if !same(fraction.Mul(a, b), fraction.Mul(b, a)) {
			t.Errorf("Mul of %s, %s does not commute", show(a), show(b))
		}
	})
}

func TestSumsAndProductsAssociate(t *testing.T) {
	add, mul := fraction.Add, fraction.Mul
	forTriples(func(a, b, c api.Frac) {
		if !same(add(add(a, b), c), add(a, add(b, c))) {
			t.Errorf("Add of %s, %s, %s does not associate", show(a), show(b), show(c))
		}
		if !same(mul(mul(a, b), c), mul(a, mul(b, c))) {
			t.Errorf("Mul of %s, %s, %s does not associate", show(a), show(b), show(c))
		}
		if !same(mul(a, add(b, c)), add(mul(a, b), mul(a, c))) {
			t.Errorf("Mul of %s does not distribute over %s, %s", show(a), show(b), show(c))
		}
	})
}

func TestInverses(t *testing.T) {
	zero := frac("0")
	forPairs(func(a, b api.Frac) {
		if got := fraction.Sub(fraction.Add(a, b), b); !same(got, a) {
			t.Errorf("(%s + %s) - the second = %s", show(a), show(b), show(got))
		}
		if got := fraction.Add(a, fraction.Neg(a)); !same(got, zero) {
			t.Errorf("%s + its negative = %v", show(a), got)
		}
		if same(b, zero) {
			return
		}
		if got := quotient(t, fraction.Mul(a, b), b); !same(got, a) {
			t.Errorf("(%s * %s) / the second = %s", show(a), show(b), show(got))
		}
	})
}

// P2.13

func TestCmpIsATotalOrder(t *testing.T) {
	forPairs(func(a, b api.Frac) {
		order := fraction.Cmp(a, b)
		if order < -1 || order > 1 || (order == 0) != same(a, b) {
			t.Errorf("Cmp(%s, %s) = %d", show(a), show(b), order)
		}
		if fraction.Cmp(b, a) != -order {
			t.Errorf("Cmp of %s, %s is not antisymmetric", show(a), show(b))
		}
		if got := fraction.Sign(fraction.Sub(a, b)); got != order {
			t.Errorf("Sign(%s - %s) = %d, Cmp = %d", show(a), show(b), got, order)
		}
	})
}

func TestSumsAndProductsPreserveTheOrder(t *testing.T) {
	forTriples(func(a, b, c api.Frac) {
		order := fraction.Cmp(a, b)
		if order <= 0 && fraction.Cmp(b, c) <= 0 && fraction.Cmp(a, c) > 0 {
			t.Errorf("Cmp of %s, %s, %s is not transitive", show(a), show(b), show(c))
		}
		if fraction.Cmp(fraction.Add(a, c), fraction.Add(b, c)) != order {
			t.Errorf("adding %s changes the order of %s, %s", show(c), show(a), show(b))
		}
		if fraction.Sign(c) > 0 && fraction.Cmp(fraction.Mul(a, c), fraction.Mul(b, c)) != order {
			t.Errorf("multiplying by %s changes the order of %s, %s", show(c), show(a), show(b))
		}
	})
}

// P2.14

func TestLerpAtTheEnds(t *testing.T) {
	zero, one := frac("0"), frac("1")
	forPairs(func(a, b api.Frac) {
		if got := fraction.Lerp(a, b, zero); !same(got, a) {
			t.Errorf("Lerp(%s, %s, 0) = %s", show(a), show(b), show(got))
		}
		if got := fraction.Lerp(a, b, one); !same(got, b) {
			t.Errorf("Lerp(%s, %s, 1) = %s", show(a), show(b), show(got))
		}
	})
}

func TestLerpIsSymmetric(t *testing.T) {
	one := frac("1")
	forTriples(func(a, b, c api.Frac) {
		if !same(fraction.Lerp(b, a, fraction.Sub(one, c)), fraction.Lerp(a, b, c)) {
			t.Errorf("Lerp of %s, %s at %s is not symmetric", show(a), show(b), show(c))
		}
	})
}

func TestLerpStaysBetween(t *testing.T) {
	for _, text := range []string{"0", "1/" + power(64), "1/3", "1/2", "4294967295/4294967296", "1"} {
		at := frac(text)
		forPairs(func(a, b api.Frac) {
			low, high := a, b
			if fraction.Cmp(a, b) > 0 {
				low, high = b, a
			}
			got := fraction.Lerp(a, b, at)
			if fraction.Cmp(got, low) < 0 || fraction.Cmp(got, high) > 0 {
				t.Errorf("Lerp(%s, %s, %s) = %s", show(a), show(b), text, show(got))
			}
		})
	}
}

// R1

// With Fracs that are not valid, calls terminate and do not panic.
func TestInvalidFractions(t *testing.T) {
	all := append(invalid(), frac("0"), frac("-3/4"), frac("5"))
	for _, a := range all {
		fraction.Valid(a)
		fraction.Neg(a)
		fraction.Sign(a)
		fraction.Floor(a)
		fraction.Format(a)
		for _, b := range all {
			fraction.Make(a.Neg, a.Num, b.Den)
			fraction.Add(a, b)
			fraction.Sub(a, b)
			fraction.Mul(a, b)
			fraction.Div(a, b)
			fraction.Cmp(a, b)
			for _, c := range all {
				fraction.Lerp(a, b, c)
			}
		}
	}
}

// R3

// call is a call with two fractions; it returns the fractions that result.
type call struct {
	name string
	run  func(a, b api.Frac) []api.Frac
}

func calls() []call {
	return []call{
		{"Make", func(a, b api.Frac) []api.Frac { f, _ := fraction.Make(a.Neg, a.Num, b.Den); return []api.Frac{f} }},
		{"Add", func(a, b api.Frac) []api.Frac { return []api.Frac{fraction.Add(a, b)} }},
		{"Sub", func(a, b api.Frac) []api.Frac { return []api.Frac{fraction.Sub(a, b)} }},
		{"Mul", func(a, b api.Frac) []api.Frac { return []api.Frac{fraction.Mul(a, b)} }},
		{"Div", func(a, b api.Frac) []api.Frac { f, _ := fraction.Div(a, b); return []api.Frac{f} }},
		{"Neg", func(a, b api.Frac) []api.Frac { return []api.Frac{fraction.Neg(a), fraction.Neg(b)} }},
		{"Lerp", func(a, b api.Frac) []api.Frac {
			half := frac("1/2")
			return []api.Frac{fraction.Lerp(a, b, half), fraction.Lerp(half, a, b)}
		}},
		{"Lerp at the ends", func(a, b api.Frac) []api.Frac {
			return []api.Frac{fraction.Lerp(a, b, frac("0")), fraction.Lerp(a, b, frac("1"))}
		}},
		{"none", func(a, b api.Frac) []api.Frac {
			fraction.Valid(a)
			fraction.Cmp(a, b)
			fraction.Sign(a)
			fraction.Floor(a)
			fraction.Format(a)
			return nil
		}},
	}
}

// forCalls calls check with all calls of pairs of fractions.
func forCalls(check func(c call, a, b api.Frac)) {
	for _, c := range calls() {
		forPairs(func(a, b api.Frac) { check(c, a, b) })
	}
}

// roomy returns a copy of a with spare capacity that holds a mark, and all memory of it.
func roomy(a api.Frac) (copied api.Frac, all [][]uint32) {
	num := append(slices.Clone(a.Num.W), 11, 12, 13, 14)
	den := append(slices.Clone(a.Den.W), 15, 16, 17, 18)
	copied = api.Frac{Neg: a.Neg, Num: nat(num[:len(a.Num.W)]...), Den: nat(den[:len(a.Den.W)]...)}
	return copied, [][]uint32{num, den}
}

func clones(all [][]uint32) [][]uint32 {
	var copied [][]uint32
	for _, w := range all {
		copied = append(copied, slices.Clone(w))
	}
	return copied
}

func sameMemory(u, v [][]uint32) bool { return slices.EqualFunc(u, v, slices.Equal[[]uint32]) }

// scribble overwrites all memory of w, also that behind its length.
func scribble(w []uint32) {
	w = w[:cap(w)]
	for i := range w {
		w[i] = ^w[i]
	}
}

func TestArgumentsAreNotModified(t *testing.T) {
	forCalls(func(c call, a, b api.Frac) {
		u, allU := roomy(a)
		v, allV := roomy(b)
		wantU, wantV := clones(allU), clones(allV)
		c.run(u, v)
		c.run(u, u)
		if !sameMemory(allU, wantU) || !sameMemory(allV, wantV) {
			t.Errorf("%s of %s, %s modified an argument", c.name, show(a), show(b))
		}
	})
}

// memory returns all slices of the fractions.
func memory(all []api.Frac) [][]uint32 {
	var w [][]uint32
	for _, a := range all {
		w = append(w, a.Num.W, a.Den.W)
	}
	return w
}

// Each slice of the results is overwritten; no argument and no other slice of the results changes.
func TestResultsAreNewMemory(t *testing.T) {
	forCalls(func(c call, a, b api.Frac) {
		u, allU := roomy(a)
		v, allV := roomy(b)
		wantU, wantV := clones(allU), clones(allV)
		results := memory(c.run(u, v))
		for i := range results {
			want := clones(results)
			scribble(results[i])
			if !sameMemory(allU, wantU) || !sameMemory(allV, wantV) {
				t.Fatalf("%s of %s, %s shares memory with an argument", c.name, show(a), show(b))
			}
			want[i] = results[i]
			if !sameMemory(results, want) {
				t.Fatalf("the results of %s of %s, %s share memory", c.name, show(a), show(b))
			}
		}
	})
}

func TestArgumentsAreNotRetained(t *testing.T) {
	forCalls(func(c call, a, b api.Frac) {
		u, allU := roomy(a)
		v, allV := roomy(b)
		results := c.run(u, v)
		for _, w := range append(allU, allV...) {
			scribble(w)
		}
		for i, want := range c.run(a, b) {
			if !same(results[i], want) {
				t.Errorf("result %d of %s of %s, %s changed with an argument", i, c.name, show(a), show(b))
			}
		}
	})
}

// Results of calls that take no fractions are new memory too: a later call returns the same.
func TestResultsAreNotKept(t *testing.T) {
	parse := func(s string) api.Frac {
		f, e := fraction.Parse(s)
		if e != api.OK {
			t.Errorf("Parse(%q): %v", s, e)
		}
		return f
	}
	ratio := func(a, b int64) api.Frac {
		f, e := fraction.Ratio(a, b)
		if e != api.OK {
			t.Errorf("Ratio(%d, %d): %v", a, b, e)
		}
		return f
	}
	for _, x := range []struct {
		name string
		run  func() api.Frac
		want string
	}{
		{"Int(0)", func() api.Frac { return fraction.Int(0) }, "0"},
		{"Int(5)", func() api.Frac { return fraction.Int(5) }, "5"},
		{"Ratio(6, 4)", func() api.Frac { return ratio(6, 4) }, "3/2"},
		{"Ratio(4, 2)", func() api.Frac { return ratio(4, 2) }, "2"},
		{"Parse(5)", func() api.Frac { return parse("5") }, "5"},
		{"Parse(3/4)", func() api.Frac { return parse("3/4") }, "3/4"},
	} {
		first := x.run()
		scribble(first.Num.W)
		scribble(first.Den.W)
		if got := x.run(); !same(got, frac(x.want)) {
			t.Errorf("%s is %v after an earlier result was overwritten", x.name, got)
		}
	}
}
