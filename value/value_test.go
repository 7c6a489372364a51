package value_test

import (
	"math/rand"
	"slices"
	"testing"

	"robotics/api"
	"robotics/schema"
	"robotics/value"
)

// P9.2

func TestZeroOfKinds(t *testing.T) {
	for _, x := range []api.Type{boolean(), integer(8), integer(16), integer(32), integer(64), unsigned(8), unsigned(16), unsigned(32), text(1), text(2000), enumType("Mode"), enumType("Only")} {
		zeroed(t, example(), x, api.Value{Kind: x.Kind})
	}
	for _, x := range []api.Type{boolean(), text(5), list(2, integer(8)), structType("Pose"), enumType("Mode"), lists(30, boolean())} {
		zeroed(t, example(), list(1, x), items())
		zeroed(t, example(), list(32, x), items())
	}
}

// Only the fields that are not optional have entries, in the order of their
// numbers.
func TestZeroOfStructs(t *testing.T) {
	pose := record(entry(1, number(0)), entry(4, word("")))
	zeroed(t, example(), structType("Pose"), pose)
	zeroed(t, example(), structType("Tag"), record(entry(1, choice(0))))
	zeroed(t, example(), structType("Free"), record())
	zeroed(t, example(), structType("Empty"), record())
	zeroed(t, example(), structType("Arm"), record(entry(2, pose), entry(10, items())))
	zeroed(t, chain(), structType("S1"), record())
	s := chain()
	for i := range s.Structs {
		s.Structs[i].Fields[0].Optional = false
	}
	zeroed(t, s, structType("S1"), recorded(6, truth(0)))
	zeroed(t, s, structType("S4"), recorded(3, truth(0)))
	types, _ := ofEachKind()
	all := structure("All")
	want := record()
	for i, x := range types {
		all.Fields = append(all.Fields, optional(10*i+1, x), field(10*i+2, x))
		want.F = append(want.F, entry(10*i+2, api.Value{Kind: x.Kind}))
	}
	want.F[5].Value = record(entry(1, choice(0)))
	s = example()
	s.Structs = slices.Insert(s.Structs, 0, all)
	zeroed(t, s, structType("All"), want)
	zeroed(t, s, list(2, structType("All")), items())
}

func TestZeroOfTypesThatAreNotPermitted(t *testing.T) {
	forBadTypes(func(x api.Type) { zeroed(t, example(), x, api.Value{}) })
	zeroed(t, structs(), structType("Tag"), api.Value{})
	zeroed(t, structs(), boolean(), truth(0))
}

// P9.3, P9.4

func TestCompareExample(t *testing.T) {
	compared(t, number(2), number(10), -1)
	compared(t, items(number(1)), items(number(1), number(1)), -1)
}

// Each value is before the following ones.
func ascending(t *testing.T, all ...api.Value) {
	t.Helper()
	for i, a := range all {
		compared(t, a, renewed(a), 0)
		for _, b := range all[i+1:] {
			compared(t, a, b, -1)
		}
	}
}

// Values that differ in one part alone.
func TestCompareParts(t *testing.T) {
	for _, v := range []api.Value{{}, number(1), word("a"), items(truth(1)), record(entry(1, word(""))), {Kind: 9, N: 1, S: "b", L: []api.Value{{}}, F: []api.Entry{{}}}} {
		var kinds, numbers, texts, elements, entries []api.Value
		with := func(l *[]api.Value, change func(v *api.Value)) {
			x := v
			change(&x)
			*l = append(*l, x)
		}
		for _, n := range []int{least, -1, 0, 1, 2, 10, 1 << 32, most} {
			with(&kinds, func(v *api.Value) { v.Kind = n })
			with(&numbers, func(v *api.Value) { v.N = int64(n) })
			with(&elements, func(v *api.Value) { v.L = []api.Value{number(int64(n))} })
			with(&entries, func(v *api.Value) { v.F = []api.Entry{entry(n, word("z"))} })
		}
		for _, s := range []string{"", "\x00", "\x00\x00", "A", "AA", "B", "a", "a\x00", "aa", "b", "\u00e4", "\xff"} {
			with(&texts, func(v *api.Value) { v.S = s })
		}
		for _, all := range [][]api.Value{kinds, numbers, texts, elements, entries} {
			ascending(t, all...)
			var within, behind []api.Value
			for _, x := range all {
				within = append(within, items(x))
				behind = append(behind, record(entry(1, word("a")), entry(1, x)))
			}
			ascending(t, within...)
			ascending(t, behind...)
		}
	}
}

// The parts count in the order Kind, N, S, L, F: the part before decides,
// whatever comes after it.
func TestOrderOfParts(t *testing.T) {
	small := api.Value{Kind: 1, N: 1, S: "a", L: []api.Value{truth(0)}, F: []api.Entry{entry(1, truth(0))}}
	great := api.Value{Kind: 2, N: 2, S: "b", L: []api.Value{truth(1)}, F: []api.Entry{entry(1, truth(1))}}
	a, b := great, small
	for _, equal := range []func(){
		func() { a.Kind = small.Kind },
		func() { a.N = small.N },
		func() { a.S = small.S },
		func() { a.L = small.L },
	} {
		compared(t, a, b, 1)
		compared(t, items(a, b), items(b, a), 1)
		equal()
	}
	compared(t, a, b, 1)
	a.F = small.F
	compared(t, a, b, 0)
}

// A proper beginning comes before the whole.
func TestCompareLists(t *testing.T) {
	one, two := number(1), number(2)
	ascending(t, items(), items(one), items(one, one), items(one, one, one), items(one, two), items(one, two, one), items(two), items(two, one))
	ascending(t, items(), items(items()), items(items(), items()), items(items(items())))
	ascending(t, items(items(one)), items(items(one), one), items(items(one, one)), items(items(two)), items(items(two), one))
}

// Entries count by their numbers, then by their values.
func TestCompareEntries(t *testing.T) {
	one, two := number(1), number(2)
	ascending(t, record(), record(entry(1, one)), record(entry(1, one), entry(1, one)), record(entry(1, one), entry(2, one)), record(entry(1, one), entry(2, two)),
		record(entry(1, two)), record(entry(1, two), entry(2, one)), record(entry(2, one)), record(entry(2, one), entry(1, one)), record(entry(2, two)), record(entry(10, one)))
	ascending(t, record(entry(-1, two)), record(entry(0, one)), record(entry(1, record())), record(entry(1, record(entry(5, one)))), record(entry(1, record(entry(6, one)))))
	compared(t, record(entry(1, one), entry(2, two)), record(entry(2, two), entry(1, one)), -1)
	compared(t, record(entry(1, two), entry(2, one)), record(entry(1, one), entry(2, two)), 1)
}

func TestEmptyListsAreEqual(t *testing.T) {
	for _, v := range []api.Value{items(), record(), word("a"), {}} {
		w := v
		w.L, w.F = []api.Value{}, make([]api.Entry, 0, 5)
		compared(t, v, w, 0)
		compared(t, items(v, v), items(w, w), 0)
		compared(t, record(entry(1, v)), record(entry(1, w)), 0)
	}
}

func TestCompareRandomValues(t *testing.T) {
	before := api.Value{}
	forValues(func(_ api.Schema, _ api.Type, v api.Value) {
		compared(t, before, v, slices.Compare(spelled(before), spelled(v)))
		compared(t, v, renewed(v), 0)
		before = v
	})
}

// P9.5

// strange returns values with entries and elements of all kinds but structs.
func strange() []api.Value {
	var all []api.Value
	for kind := -1; kind < 9; kind++ {
		if kind != api.KStruct {
			f := []api.Entry{entry(1, number(1)), entry(1, number(2)), entry(5, word("a"))}
			all = append(all, api.Value{Kind: kind, N: 1, S: "a", L: []api.Value{number(7), number(8)}, F: f})
		}
	}
	return all
}

// disordered returns a struct whose entries do not ascend, and which has the
// numbers 2 and 5 twice.
func disordered() api.Value {
	v := record(entry(5, number(50)), entry(2, number(20)), entry(-7, number(-70)), entry(5, number(51)), entry(most, number(1)), entry(2, number(21)), entry(3, number(30)))
	v.L = []api.Value{number(9), number(9), number(9)}
	return v
}

func TestField(t *testing.T) {
	v := record(entry(1, number(10)), entry(3, items(word("a"))), entry(4, record(entry(2, truth(1)))), entry(127, word("z")))
	searched(value.Field(v, 1)).found(t, number(10))
	searched(value.Field(v, 3)).found(t, items(word("a")))
	searched(value.Field(v, 4)).found(t, record(entry(2, truth(1))))
	searched(value.Field(v, 127)).found(t, word("z"))
	for _, n := range []int{least, -1, 0, 2, 5, 126, 128, 1<<32 + 1, most} {
		searched(value.Field(v, n)).missed(t)
	}
	for _, n := range []int{0, 1, -1} {
		searched(value.Field(record(), n)).missed(t)
	}
	searched(value.Field(record(entry(1, api.Value{})), 1)).found(t, api.Value{})
}

func TestFieldOfStrangeValues(t *testing.T) {
	for _, v := range strange() {
		for n := -1; n < 7; n++ {
			searched(value.Field(v, n)).missed(t)
		}
	}
	v := disordered()
	for n, want := range map[int]int64{5: 50, 2: 20, -7: -70, most: 1, 3: 30} {
		searched(value.Field(v, n)).found(t, number(want))
	}
	for _, n := range []int{0, 1, 4, 6, least} {
		searched(value.Field(v, n)).missed(t)
	}
}

// P9.6

func TestWithExample(t *testing.T) {
	v := value.With(record(entry(1, number(5))), 2, number(7))
	became(t, v, record(entry(1, number(5)), entry(2, number(7))))
	became(t, value.Without(v, 1), record(entry(2, number(7))))
}

func TestWith(t *testing.T) {
	a, b, c, x := entry(1, number(10)), entry(3, items(word("a"))), entry(7, word("z")), record(entry(1, truth(1)))
	v := record(a, b, c)
	for n, want := range map[int]api.Value{
		least: record(entry(least, x), a, b, c), -1: record(entry(-1, x), a, b, c), 0: record(entry(0, x), a, b, c),
		1: record(entry(1, x), b, c), 2: record(a, entry(2, x), b, c), 3: record(a, entry(3, x), c), 4: record(a, b, entry(4, x), c),
		6: record(a, b, entry(6, x), c), 7: record(a, b, entry(7, x)), 8: record(a, b, c, entry(8, x)), most: record(a, b, c, entry(most, x)),
	} {
		became(t, value.With(v, n, x), want)
	}
	became(t, value.With(record(), 5, x), record(entry(5, x)))
	became(t, value.With(v, 3, api.Value{}), record(a, entry(3, api.Value{}), c))
	became(t, value.With(v, 3, v), record(a, entry(3, v), c))
	became(t, value.With(v, 4, v), record(a, b, entry(4, v), c))
}

func TestWithout(t *testing.T) {
	a, b, c := entry(1, number(10)), entry(3, items(word("a"))), entry(7, word("z"))
	v := record(a, b, c)
	became(t, value.Without(v, 1), record(b, c))
	became(t, value.Without(v, 3), record(a, c))
	became(t, value.Without(v, 7), record(a, b))
	for _, n := range []int{least, -1, 0, 2, 4, 6, 8, 10, most} {
		became(t, value.Without(v, n), v)
	}
	became(t, value.Without(record(), 1), record())
	became(t, value.Without(record(a), 1), record())
	became(t, value.Without(record(a, a, a), 1), record())
}

func TestWithAndWithoutOfStrangeValues(t *testing.T) {
	for _, v := range strange() {
		for n := -1; n < 7; n++ {
			became(t, value.With(v, n, truth(1)), v)
			became(t, value.Without(v, n), v)
		}
	}
	v, x := disordered(), word("x")
	for n, i := range map[int]int{5: 0, 2: 1, -7: 2, most: 4, 3: 6} {
		want := renewed(v)
		want.F[i].Value = x
		became(t, value.With(v, n, x), want)
	}
	for n, i := range map[int]int{least: 0, -8: 0, 0: 0, 1: 0, 4: 0, 6: 4, most - 1: 4} {
		want := renewed(v)
		want.F = slices.Insert(want.F, i, entry(n, x))
		became(t, value.With(v, n, x), want)
	}
	for n, kept := range map[int][]int{5: {1, 2, 4, 5, 6}, 2: {0, 2, 3, 4, 6}, -7: {0, 1, 3, 4, 5, 6}, most: {0, 1, 2, 3, 5, 6}, 3: {0, 1, 2, 3, 4, 5}, 0: {0, 1, 2, 3, 4, 5, 6}} {
		want := renewed(v)
		want.F = nil
		for _, i := range kept {
			want.F = append(want.F, v.F[i])
		}
		became(t, value.Without(v, n), want)
	}
}

// P9.7

func TestAt(t *testing.T) {
	tags := items(record(entry(1, choice(5))), record(entry(1, choice(0)), entry(2, items(word("a"), word("b")))))
	v := record(entry(1, number(7)), entry(3, tags), entry(9, word("abc")))
	at := func(path ...int) search { return searched(value.At(v, path)) }
	at().found(t, v)
	at(1).found(t, number(7))
	at(3).found(t, tags)
	at(9).found(t, word("abc"))
	at(3, 0).found(t, tags.L[0])
	at(3, 1).found(t, tags.L[1])
	at(3, 0, 1).found(t, choice(5))
	at(3, 1, 2).found(t, items(word("a"), word("b")))
	at(3, 1, 2, 0).found(t, word("a"))
	at(3, 1, 2, 1).found(t, word("b"))
	for _, path := range [][]int{
		{0}, {2}, {-1}, {4}, {10}, {least}, {most}, {0, 0},
		{3, -1}, {3, 2}, {3, 3}, {3, least}, {3, most}, {3, 1 << 32}, {3, -1, 1}, {3, 2, 1},
		{3, 0, 0}, {3, 0, 2}, {3, 1, 3}, {3, 1, 2, -1}, {3, 1, 2, 2},
		// on behind a number or a text
		{1, 0}, {1, 1}, {1, -1}, {9, 0}, {9, 1}, {9, 3}, {3, 0, 1, 0}, {3, 0, 1, 1}, {3, 1, 2, 0, 0}, {3, 1, 2, 0, 1}, {1, 0, 0, 0},
	} {
		at(path...).missed(t)
	}
}

func TestAtOfOtherValues(t *testing.T) {
	for _, v := range append(someValues(), strange()...) {
		searched(value.At(v, nil)).found(t, v)
		searched(value.At(v, []int{})).found(t, v)
		for step := -2; step < 4; step++ {
			got := searched(value.At(v, []int{step}))
			if v.Kind == api.KList && step >= 0 && step < len(v.L) {
				got.found(t, v.L[step])
				continue
			}
			x, ok := value.Field(v, step)
			if !ok {
				got.missed(t)
				continue
			}
			got.found(t, x)
		}
	}
	v := disordered()
	searched(value.At(v, []int{5})).found(t, number(50))
	searched(value.At(v, []int{2})).found(t, number(20))
	searched(value.At(v, []int{0})).missed(t)
	list := api.Value{Kind: api.KList, L: []api.Value{word("a")}, F: []api.Entry{entry(0, number(1)), entry(1, number(2))}}
	searched(value.At(list, []int{0})).found(t, word("a"))
	searched(value.At(list, []int{1})).missed(t)
}

// Every part is at its path, where no number is there twice.
func TestAtOfRandomValues(t *testing.T) {
	r := rand.New(rand.NewSource(2))
	for range 2000 {
		s := randomSchema(r)
		v := randomValue(r, s, randomType(r, s))
		var visit func(x api.Value, path []int)
		visit = func(x api.Value, path []int) {
			searched(value.At(v, path)).found(t, x)
			for i, y := range x.L {
				visit(y, append(slices.Clone(path), i))
			}
			for _, f := range x.F {
				visit(f.Value, append(slices.Clone(path), f.Number))
			}
			searched(value.At(v, append(slices.Clone(path), len(x.L)+100))).missed(t)
		}
		visit(v, nil)
	}
}

// P9.8

// sized checks the size of a value.
func sized(t *testing.T, v api.Value, want int) {
	t.Helper()
	if got := value.Size(v); got != want {
		t.Errorf("Size(%s) = %d, want %d", written(v), got, want)
	}
}

func TestSize(t *testing.T) {
	for _, v := range []api.Value{{}, truth(1), number(most), word("abcdef"), choice(3), items(), record(), {Kind: -1, S: "a"}} {
		sized(t, v, 1)
		sized(t, items(v), 2)
		sized(t, items(v, v, v), 4)
		sized(t, record(entry(100, v)), 2)
		sized(t, record(entry(1, v), entry(1, v)), 3)
		sized(t, items(items(v, v), items(v)), 6)
		sized(t, record(entry(1, items(v, record(entry(2, v)))), entry(3, v)), 6)
		for kind := -1; kind < 9; kind++ {
			sized(t, api.Value{Kind: kind, L: []api.Value{v, items(v)}, F: []api.Entry{entry(1, v), entry(2, record(entry(1, v)))}}, 7)
		}
	}
	sized(t, arm(), 19)
	sized(t, nested(6, number(1)), 7)
}

func TestSizeOfRandomValues(t *testing.T) {
	forValues(func(_ api.Schema, _ api.Type, v api.Value) {
		v = renewed(v)
		sized(t, v, len(parts(&v)))
	})
}

// Zero values of random types.
func TestZeroOfRandomTypes(t *testing.T) {
	var zero func(s api.Schema, x api.Type) api.Value
	zero = func(s api.Schema, x api.Type) api.Value {
		v := api.Value{Kind: x.Kind}
		y, _ := schema.Struct(s, x.Name)
		for _, f := range y.Fields {
			if !f.Optional {
				v.F = append(v.F, entry(f.Number, zero(s, f.Type)))
			}
		}
		return v
	}
	r := rand.New(rand.NewSource(3))
	for range 3000 {
		s := randomSchema(r)
		x := randomType(r, s)
		zeroed(t, s, x, zero(s, x))
	}
}
