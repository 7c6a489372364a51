package fraction_test

import (
	"math/big"
	"math/rand"
	"slices"
	"testing"

	"robotics/api"
	"robotics/fraction"
)

const (
	top   = 1<<32 - 1
	least = -1 << 63
	most  = 1<<63 - 1
)

func nat(w ...uint32) api.Nat { return api.Nat{W: w} }

func sameNat(a, b api.Nat) bool { return slices.Equal(a.W, b.W) }

func same(a, b api.Frac) bool {
	return a.Neg == b.Neg && sameNat(a.Num, b.Num) && sameNat(a.Den, b.Den)
}

// isNone reports whether a is the zero value, which accompanies an error.
func isNone(a api.Frac) bool { return same(a, api.Frac{}) }

// bigOf is the oracle's number of a.
func bigOf(a api.Nat) *big.Int {
	n := new(big.Int)
	for i := len(a.W) - 1; i >= 0; i-- {
		n.Lsh(n, 32)
		n.Or(n, big.NewInt(int64(a.W[i])))
	}
	return n
}

// natOf returns the valid Nat of |n|.
func natOf(n *big.Int) api.Nat {
	var a api.Nat
	for rest := new(big.Int).Abs(n); rest.Sign() > 0; rest.Rsh(rest, 32) {
		a.W = append(a.W, uint32(rest.Uint64()))
	}
	return a
}

// ratOf is the oracle's number of a.
func ratOf(a api.Frac) *big.Rat {
	r := new(big.Rat).SetFrac(bigOf(a.Num), bigOf(a.Den))
	if a.Neg {
		r.Neg(r)
	}
	return r
}

// fracOf returns the one valid Frac of r.
func fracOf(r *big.Rat) api.Frac {
	return api.Frac{Neg: r.Sign() < 0, Num: natOf(r.Num()), Den: natOf(r.Denom())}
}

// frac returns the valid Frac with a text such as -3/4.
func frac(text string) api.Frac {
	r, ok := new(big.Rat).SetString(text)
	if !ok {
		panic(text)
	}
	return fracOf(r)
}

// power returns 2^n as a text.
func power(n uint) string { return new(big.Int).Lsh(big.NewInt(1), n).String() }

// show returns the text of a; other than Format it depends on no promise.
func show(a api.Frac) string {
	if bigOf(a.Den).Sign() == 0 {
		return "none"
	}
	return ratOf(a).RatString()
}

// randomRat returns a random number of about size digits, many of which are extreme.
func randomRat(r *rand.Rand, size int) *big.Rat {
	num, den := randomInt(r, size), randomInt(r, size)
	if den.Sign() == 0 {
		den.SetInt64(1)
	}
	n := new(big.Rat).SetFrac(num, den)
	if r.Intn(2) == 0 {
		n.Neg(n)
	}
	return n
}

func randomInt(r *rand.Rand, size int) *big.Int {
	extremes := []uint32{0, 1, 2, 3, 1<<31 - 1, 1 << 31, top - 1, top}
	w := make([]uint32, r.Intn(size+1))
	for i := range w {
		w[i] = r.Uint32()
		if r.Intn(2) == 0 {
			w[i] = extremes[r.Intn(len(extremes))]
		}
	}
	return bigOf(api.Nat{W: w})
}

// fractions returns valid Fracs: small ones, large ones, and random ones.
func fractions() []api.Frac {
	var all []api.Frac
	for _, text := range []string{
		"0", "1", "2", "1/2", "1/3", "2/3", "3/4", "1/6", "5/2", "7/2", "12/35", "35/12",
		"4294967295", "4294967296", "1/4294967296", "4294967295/4294967296", "4294967297/4294967295",
		power(63), power(64), "1/" + power(64), "3/" + power(63), power(96) + "/7",
	} {
		all = append(all, frac(text))
		if text != "0" {
			all = append(all, frac("-"+text))
		}
	}
	r := rand.New(rand.NewSource(1))
	for range 20 {
		all = append(all, fracOf(randomRat(r, 4)))
	}
	return all
}

// forPairs calls check with all pairs of fractions and with longer random pairs.
func forPairs(check func(a, b api.Frac)) {
	all := fractions()
	for _, a := range all {
		for _, b := range all {
			check(a, b)
		}
	}
	r := rand.New(rand.NewSource(2))
	for range 300 {
		check(fracOf(randomRat(r, 12)), fracOf(randomRat(r, 12)))
	}
}

// forTriples calls check with triples of fractions.
func forTriples(check func(a, b, c api.Frac)) {
	var all []api.Frac
	for _, text := range []string{"0", "1", "-1", "1/2", "-2/3", "5/4", "-4294967296/3", "7/" + power(64)} {
		all = append(all, frac(text))
	}
	r := rand.New(rand.NewSource(3))
	for range 5 {
		all = append(all, fracOf(randomRat(r, 4)))
	}
	for _, a := range all {
		for _, b := range all {
			for _, c := range all {
				check(a, b, c)
			}
		}
	}
}

// expect checks that got is the one valid Frac of want.
func expect(t *testing.T, got api.Frac, want *big.Rat, name string, args ...api.Frac) {
	t.Helper()
	if same(got, fracOf(want)) {
		return
	}
	var texts []string
	for _, a := range args {
		texts = append(texts, show(a))
	}
	t.Errorf("%s%v = %v, want %s", name, texts, got, want.RatString())
}

// quotient returns a / b, which must exist.
func quotient(t *testing.T, a, b api.Frac) api.Frac {
	t.Helper()
	q, e := fraction.Div(a, b)
	if e != api.OK {
		t.Errorf("Div(%s, %s): %v", show(a), show(b), e)
	}
	return q
}
