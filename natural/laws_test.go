package natural_test

import (
	"math/rand"
	"slices"
	"testing"

	"robotics/api"
	"robotics/natural"
)

// P1.6

func forTriples(check func(a, b, c api.Nat)) {
	r := rand.New(rand.NewSource(7))
	all := []api.Nat{nat(), nat(1), nat(top), nat(0, 1), nat(top, top), nat(0, 0, 1)}
	for range 6 {
		all = append(all, randomNat(r, 8))
	}
	for _, a := range all {
		for _, b := range all {
			for _, c := range all {
				check(a, b, c)
			}
		}
	}
}

func TestSumsAndProductsCommute(t *testing.T) {
	forPairs(func(a, b api.Nat) {
		if !same(natural.Add(a, b), natural.Add(b, a)) {
			t.Errorf("Add of %v, %v does not commute", a, b)
		}
		if !same(natural.Mul(a, b), natural.Mul(b, a)) {
			t.Errorf("Mul of %v, %v does not commute", a, b)
		}
	})
}

func TestSumsAndProductsAssociate(t *testing.T) {
	add, mul := natural.Add, natural.Mul
	forTriples(func(a, b, c api.Nat) {
		if !same(add(add(a, b), c), add(a, add(b, c))) {
			t.Errorf("Add of %v, %v, %v does not associate", a, b, c)
		}
		if !same(mul(mul(a, b), c), mul(a, mul(b, c))) {
			t.Errorf("Mul of %v, %v, %v does not associate", a, b, c)
		}
	})
}

func TestProductsDistribute(t *testing.T) {
	add, mul := natural.Add, natural.Mul
	forTriples(func(a, b, c api.Nat) {
		if !same(mul(a, add(b, c)), add(mul(a, b), mul(a, c))) {
			t.Errorf("Mul of %v does not distribute over %v, %v", a, b, c)
		}
	})
}

func TestSubInvertsAdd(t *testing.T) {
	forPairs(func(a, b api.Nat) {
		if got, ok := natural.Sub(natural.Add(a, b), b); !ok || !same(got, a) {
			t.Errorf("(%v + %v) - the second = %v, %v", a, b, got, ok)
		}
	})
}

func TestCmpIsATotalOrder(t *testing.T) {
	forTriples(func(a, b, c api.Nat) {
		ab, bc, ac := natural.Cmp(a, b), natural.Cmp(b, c), natural.Cmp(a, c)
		if ab != -natural.Cmp(b, a) {
			t.Errorf("Cmp of %v, %v is not antisymmetric", a, b)
		}
		if (ab == 0) != same(a, b) {
			t.Errorf("Cmp(%v, %v) = %d", a, b, ab)
		}
		if ab <= 0 && bc <= 0 && ac > 0 {
			t.Errorf("Cmp of %v, %v, %v is not transitive", a, b, c)
		}
		if natural.Cmp(natural.Add(a, c), natural.Add(b, c)) != ab {
			t.Errorf("Add of %v does not preserve the order of %v, %v", c, a, b)
		}
	})
}

// R1

// With Nats that are not valid, calls terminate and do not panic.
func TestInvalidNats(t *testing.T) {
	all := []api.Nat{
		nat(0), nat(0, 0), nat(1, 0), nat(0, 1, 0), nat(5, 0, 0, 0), nat(top, top, 0),
		nat(1, 0, 1<<31, 0), nat(), nat(3), nat(0, 1), nat(1, 0, 1<<31),
	}
	for _, a := range all {
		natural.Bits(a)
		natural.Format(a)
		for _, b := range all {
			natural.Cmp(a, b)
			natural.Add(a, b)
			natural.Sub(a, b)
			natural.Mul(a, b)
			natural.DivMod(a, b)
			natural.Gcd(a, b)
		}
	}
}

// Numbers of thousands of digits are computed in a moment.
func TestLargeNumbers(t *testing.T) {
	r := rand.New(rand.NewSource(8))
	a, b := randomNat(r, 3000), randomNat(r, 3000)
	product := natural.Mul(a, b)
	checkDivMod(t, natural.Add(product, nat(5)), a)
	if got := natural.Gcd(product, a); !same(got, a) {
		t.Errorf("Gcd of a product has %d digits", len(got.W))
	}
	if got, want := natural.Format(product), bigOf(product).String(); got != want {
		t.Errorf("Format has %d bytes instead of %d", len(got), len(want))
	}
}

// R3

// calls returns all calls with two numbers that return numbers.
func calls() map[string]func(a, b api.Nat) []api.Nat {
	return map[string]func(a, b api.Nat) []api.Nat{
		"Add": func(a, b api.Nat) []api.Nat { return []api.Nat{natural.Add(a, b)} },
		"Sub": func(a, b api.Nat) []api.Nat { d, _ := natural.Sub(a, b); return []api.Nat{d} },
		"Mul": func(a, b api.Nat) []api.Nat { return []api.Nat{natural.Mul(a, b)} },
		"DivMod": func(a, b api.Nat) []api.Nat {
			q, r, _ := natural.DivMod(a, b)
			return []api.Nat{q, r}
		},
		"Gcd": func(a, b api.Nat) []api.Nat { return []api.Nat{natural.Gcd(a, b)} },
		"none": func(a, b api.Nat) []api.Nat {
			natural.Valid(a)
			natural.Cmp(a, b)
			natural.Bits(a)
			natural.Format(a)
			return nil
		},
	}
}

// roomy returns a copy of a with spare capacity that holds a mark.
func roomy(a api.Nat) (copied api.Nat, all []uint32) {
	all = append(slices.Clone(a.W), 11, 12, 13, 14)
	return api.Nat{W: all[:len(a.W)]}, all
}

func TestArgumentsAreNotModified(t *testing.T) {
	for name, call := range calls() {
		forPairs(func(a, b api.Nat) {
			x, allX := roomy(a)
			y, allY := roomy(b)
			wantX, wantY := slices.Clone(allX), slices.Clone(allY)
			call(x, y)
			call(x, x)
			if !slices.Equal(allX, wantX) || !slices.Equal(allY, wantY) {
				t.Errorf("%s(%v, %v) modified an argument", name, a, b)
			}
		})
	}
}

// scribble overwrites all memory of a, also that behind its length.
func scribble(a api.Nat) {
	w := a.W[:cap(a.W)]
	for i := range w {
		w[i] = ^w[i]
	}
}

func TestResultsAreNewMemory(t *testing.T) {
	for name, call := range calls() {
		forPairs(func(a, b api.Nat) {
			for i := range call(a, b) {
				x, allX := roomy(a)
				y, allY := roomy(b)
				wantX, wantY := slices.Clone(allX), slices.Clone(allY)
				results := call(x, y)
				want := call(a, b)
				scribble(results[i])
				if !slices.Equal(allX, wantX) || !slices.Equal(allY, wantY) {
					t.Errorf("result %d of %s(%v, %v) shares memory with an argument", i, name, a, b)
				}
				for k := range results {
					if k != i && !same(results[k], want[k]) {
						t.Errorf("the results of %s(%v, %v) share memory", name, a, b)
					}
				}
			}
		})
	}
}

func TestArgumentsAreNotRetained(t *testing.T) {
	for name, call := range calls() {
		forPairs(func(a, b api.Nat) {
			x, allX := roomy(a)
			y, allY := roomy(b)
			results := call(x, y)
			scribble(api.Nat{W: allX})
			scribble(api.Nat{W: allY})
			for i, want := range call(a, b) {
				if !same(results[i], want) {
					t.Errorf("result %d of %s(%v, %v) changed with an argument", i, name, a, b)
				}
			}
		})
	}
}
