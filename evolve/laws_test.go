package evolve_test

import (
	"fmt"
	"math/rand"
	"slices"
	"strings"
	"testing"

	"robotics/api"
	"robotics/evolve"
	"robotics/value"
)

// R1

// callAll calls all functions with some arguments.
func callAll(a, b api.Schema, name string, v api.Value) {
	evolve.Issues(a, b, name)
	evolve.Compatible(a, b, name)
	evolve.Convert(a, b, name, v)
	evolve.Project(b, name, v)
	evolve.Merge(a, b)
	for _, x := range a.Structs {
		for _, f := range x.Fields {
			for _, y := range b.Structs {
				for _, g := range y.Fields {
					evolve.Widens(f.Type, g.Type)
				}
			}
		}
	}
}

// deepRecord returns a value within so many structs.
func deepRecord(levels int, v api.Value) api.Value {
	for range levels {
		v = record(entry(1, v))
	}
	return v
}

func TestStrangeArguments(t *testing.T) {
	values := []api.Value{
		{}, {Kind: -1}, {Kind: 99, N: least}, number(least), word(strings.Repeat("\xff", 1<<10)), items(), record(),
		{Kind: api.KStruct, N: 1, S: "a", L: []api.Value{{}}, F: []api.Entry{{}}},
		record(entry(-1, number(1)), entry(0, number(1)), entry(1, number(1)), entry(most, record())),
		record(entry(3, record(entry(3, items(record(entry(1, items(record()))), record()))))),
		items(make([]api.Value, 1<<10)...),
		record(make([]api.Entry, 1<<10)...),
		nested(100, number(1)),
		deepRecord(100, number(1)),
	}
	schemas := strangeSchemas()
	schemas["the sample"] = schemaOf(sample)
	for _, a := range schemas {
		for _, b := range schemas {
			for i, name := range []string{"Top", "Point", "Mode", "None", ""} {
				for _, v := range values[i:] {
					evolve.Convert(a, b, name, v)
					evolve.Project(b, name, v)
				}
				callAll(a, b, name, values[i])
			}
		}
	}
}

// As deep and as large as the bound permits.
func TestLargeArguments(t *testing.T) {
	s := schemaOf(sample)
	for _, v := range []api.Value{
		nested(1<<16-2, number(1)), deepRecord(1<<16-2, number(1)), record(entry(3, deepRecord(1<<16-3, number(1)))),
		record(make([]api.Entry, 1<<16)...), record(entry(5, items(make([]api.Value, 1<<16)...))), word(strings.Repeat("a", 1<<20)),
		record(entry(5, items(items(slices.Repeat([]api.Value{record(entry(1, record(entry(2, number(1)))))}, 1<<15)...)))),
	} {
		projected(t, s, "Top", v, project(s, "Top", v))
		if got, e := evolve.Convert(s, s, "Top", v); e == api.OK || !value.Equal(got, api.Value{}) {
			t.Errorf("Convert = %v", e)
		}
	}
	deep := cloned(s)
	deep.Structs[2].Fields[0].Type = nestedType(1<<16-1, 2, typeOf("bool"))
	callAll(deep, deep, "Top", record())
	callAll(s, deep, "Top", record())
	huge := api.Schema{Version: least, Structs: make([]api.Struct, 1<<16), Enums: make([]api.Enum, 1<<16)}
	callAll(huge, api.Schema{}, "", api.Value{})
	callAll(api.Schema{}, huge, "", api.Value{})
}

// R2

// Together with an error, nothing else is returned. (The checks of results are
// used by all tests; this one counts the errors.)
func TestNothingWithAnError(t *testing.T) {
	r := rand.New(rand.NewSource(8))
	errors := map[api.Errno]int{}
	forPairs(func(a, b api.Schema) {
		if s, e := evolve.Merge(a, b); e != api.OK {
			errors[e]++
			notMerged(t, a, b, e)
			if fmt.Sprintf("%+v", s) != fmt.Sprintf("%+v", api.Schema{}) {
				t.Errorf("Merge = %+v, %v", s, e)
			}
		}
		for _, x := range a.Structs {
			v := spoiled(r, randomValue(r, a, structType(x.Name)))
			if w, e := evolve.Convert(a, b, x.Name, v); e != api.OK {
				errors[e]++
				if !value.Equal(w, api.Value{}) {
					t.Errorf("Convert = %+v, %v", w, e)
				}
			}
		}
	})
	for _, e := range []api.Errno{api.ErrIncompatible, api.ErrType, api.ErrExists} {
		if errors[e] < 30 {
			t.Errorf("only %d calls with %v", errors[e], e)
		}
	}
}

// R3

// spacious returns the same value, with lists that have spare capacity.
func spacious(v api.Value) api.Value {
	l, f := make([]api.Value, 0, len(v.L)+3), make([]api.Entry, 0, len(v.F)+3)
	for _, x := range v.L {
		l = append(l, spacious(x))
	}
	for _, x := range v.F {
		f = append(f, entry(x.Number, spacious(x.Value)))
	}
	v.L, v.F = l, f
	return v
}

// everything returns a text of a value with all of its spare capacity.
func everything(v api.Value) string {
	text := fmt.Sprint(v.Kind, v.N, v.S, "[")
	for _, x := range v.L[:cap(v.L)] {
		text += everything(x) + ","
	}
	text += "]{"
	for _, f := range v.F[:cap(v.F)] {
		text += fmt.Sprint(f.Number, everything(f.Value), ",")
	}
	return text + "}"
}

// roomy returns the same list in new memory, with spare capacity.
func roomy[T any](l []T) []T { return slices.Grow(slices.Clone(l), 5) }

// spaciousSchema returns the same schema, with spare capacity everywhere.
func spaciousSchema(s api.Schema) api.Schema {
	s.Enums, s.Structs = roomy(s.Enums), roomy(s.Structs)
	for i := range s.Enums {
		x := &s.Enums[i]
		x.Names, x.Numbers = roomy(x.Names), roomy(x.Numbers)
	}
	for i := range s.Structs {
		s.Structs[i].Fields = roomy(s.Structs[i].Fields)
		for k := range s.Structs[i].Fields {
			f := &s.Structs[i].Fields[k]
			f.Type = spaciousType(f.Type)
		}
	}
	return s
}

func spaciousType(t api.Type) api.Type {
	t.Elem = roomy(t.Elem)
	for i, x := range t.Elem {
		t.Elem[i] = spaciousType(x)
	}
	return t
}

// wholeSchema returns a text of a schema with all of its spare capacity.
func wholeSchema(s api.Schema) string {
	text := fmt.Sprint(s.Version, s.Enums[:cap(s.Enums)], s.Structs[:cap(s.Structs)])
	for _, x := range s.Enums {
		text += fmt.Sprint(x.Names[:cap(x.Names)], x.Numbers[:cap(x.Numbers)])
	}
	for _, x := range s.Structs {
		text += fmt.Sprint(x.Fields[:cap(x.Fields)])
		for _, f := range x.Fields {
			for t := f.Type; len(t.Elem) > 0; t = t.Elem[0] {
				text += fmt.Sprint(t.Elem[:cap(t.Elem)])
			}
		}
	}
	return text
}

func TestArgumentsAreNotModified(t *testing.T) {
	r := rand.New(rand.NewSource(9))
	forSomePairs(9, func(a, b api.Schema) {
		a, b = spaciousSchema(a), spaciousSchema(b)
		for _, x := range a.Structs {
			v := randomValue(r, a, structType(x.Name))
			for _, v := range []api.Value{spacious(v), spacious(spoiled(r, v))} {
				before := everything(v) + wholeSchema(a) + wholeSchema(b)
				callAll(a, b, x.Name, v)
				if after := everything(v) + wholeSchema(a) + wholeSchema(b); after != before {
					t.Fatalf("%s has become %s", before, after)
				}
			}
		}
	})
}

// overwrite changes all of the lists of a value, with their spare capacity.
func overwrite(v api.Value) {
	l, f := v.L[:cap(v.L)], v.F[:cap(v.F)]
	for i := range l {
		overwrite(l[i])
		l[i] = word("overwritten")
	}
	for i := range f {
		overwrite(f[i].Value)
		f[i] = entry(999, word("overwritten"))
	}
}

// fill sets all elements of a list, with its spare capacity.
func fill[T any](l []T, x T) {
	l = l[:cap(l)]
	for i := range l {
		l[i] = x
	}
}

// overwriteSchema changes all of the lists of a schema.
func overwriteSchema(s api.Schema) {
	for _, x := range s.Enums[:cap(s.Enums)] {
		fill(x.Names, "overwritten")
		fill(x.Numbers, 999)
	}
	for _, x := range s.Structs[:cap(s.Structs)] {
		for _, f := range x.Fields[:cap(x.Fields)] {
			for t := f.Type; len(t.Elem) > 0; {
				elem := t.Elem
				t = t.Elem[0]
				fill(elem, api.Type{Kind: 999})
			}
		}
		fill(x.Fields, api.Field{Number: 999})
	}
	fill(s.Enums, api.Enum{Name: "overwritten"})
	fill(s.Structs, api.Struct{Name: "overwritten"})
}

// What is done to a result is not seen in the arguments, and the reverse.
func TestResultsAreNew(t *testing.T) {
	r := rand.New(rand.NewSource(10))
	forSomePairs(7, func(a, b api.Schema) {
		a, b = spaciousSchema(a), spaciousSchema(b)
		before := wholeSchema(a) + wholeSchema(b)
		for _, x := range a.Structs {
			valid := spacious(randomValue(r, a, structType(x.Name)))
			for _, v := range []api.Value{valid, spacious(spoiled(r, valid))} {
				whole, results := everything(v), func() []api.Value {
					w, _ := evolve.Convert(a, b, x.Name, v)
					return []api.Value{w, evolve.Project(b, x.Name, v), evolve.Project(b, "None", v)}
				}
				for _, w := range results() {
					overwrite(w)
				}
				if everything(v) != whole {
					t.Errorf("%s has become %s", whole, everything(v))
				}
				kept := results()
				texts := []string{everything(kept[0]), everything(kept[1]), everything(kept[2])}
				overwrite(v)
				for i, text := range texts {
					if everything(kept[i]) != text {
						t.Errorf("%s has become %s", text, everything(kept[i]))
					}
				}
			}
			fill(evolve.Issues(a, b, x.Name), evolve.Issue{Kind: 9})
		}
		both, _ := evolve.Merge(a, b)
		again := cloned(both)
		overwriteSchema(both)
		if after := wholeSchema(a) + wholeSchema(b); after != before {
			t.Errorf("%s has become %s", before, after)
		}
		both, _ = evolve.Merge(a, b)
		overwriteSchema(a)
		overwriteSchema(b)
		if text(both) != text(again) {
			t.Errorf("%s has become %s", text(again), text(both))
		}
	})
}

// memory tells whether two lists share memory.
type memory map[any]bool

// admit adds the elements of a list, with its spare capacity.
func admit[T any](t *testing.T, m memory, l []T) {
	l = l[:cap(l)]
	for i := range l {
		if m[&l[i]] {
			t.Errorf("two lists share memory")
		}
		m[&l[i]] = true
	}
}

func admitValue(t *testing.T, m memory, v api.Value) {
	admit(t, m, v.L)
	admit(t, m, v.F)
	for _, x := range v.L {
		admitValue(t, m, x)
	}
	for _, f := range v.F {
		admitValue(t, m, f.Value)
	}
}

// No two lists of one result share memory, also where the arguments do.
func TestListsOfResultsAreApart(t *testing.T) {
	r := rand.New(rand.NewSource(11))
	forPairs(func(a, b api.Schema) {
		for _, pair := range [][2]api.Schema{{a, b}, {a, a}} {
			s, _ := evolve.Merge(pair[0], pair[1])
			m := memory{}
			admit(t, m, s.Enums)
			admit(t, m, s.Structs)
			for _, x := range s.Enums {
				admit(t, m, x.Names)
				admit(t, m, x.Numbers)
			}
			for _, x := range s.Structs {
				admit(t, m, x.Fields)
				for _, f := range x.Fields {
					for of := f.Type; len(of.Elem) > 0; of = of.Elem[0] {
						admit(t, m, of.Elem)
					}
				}
			}
		}
		for _, x := range a.Structs {
			v := spoiled(r, randomValue(r, a, structType(x.Name)))
			if len(v.F) > 0 {
				v.F = append(slices.Clone(v.F), v.F...)
			}
			admitValue(t, memory{}, evolve.Project(b, x.Name, v))
			admitValue(t, memory{}, evolve.Project(b, "None", v))
		}
	})
	// All fields have one list.
	elem := []api.Type{typeOf("bool")}
	shared := api.Schema{Version: 1, Structs: []api.Struct{{Name: "A"}}}
	for i := range 10 {
		shared.Structs[0].Fields = append(shared.Structs[0].Fields, api.Field{Number: i + 1, Name: fieldName(i), Type: listType(2, elem...)})
	}
	merged(t, shared, shared, cloned(shared))
	s, _ := evolve.Merge(shared, shared)
	m := memory{}
	for _, f := range s.Structs[0].Fields {
		admit(t, m, f.Type.Elem)
	}
}

// An empty list may be nil or not.
func TestEmptyLists(t *testing.T) {
	empty := api.Schema{Version: 1, Enums: []api.Enum{}, Structs: []api.Struct{{Name: "A", Fields: []api.Field{}}, {Name: "B", Fields: []api.Field{{Number: 1, Name: "x", Type: api.Type{Kind: api.KBool, Elem: []api.Type{}}}}}}}
	s := schemaOf("struct A { } struct B { 1 x: bool; }")
	for _, pair := range [][2]api.Schema{{empty, s}, {s, empty}, {empty, empty}} {
		merged(t, pair[0], pair[1], s)
		issued(t, pair[0], pair[1], "A", "")
		issued(t, pair[0], pair[1], "B", "")
	}
	widened(t, api.Type{Kind: api.KList, Size: 2, Elem: []api.Type{}}, listType(2), true)
	widened(t, api.Type{Kind: api.KInt, Size: 8, Elem: []api.Type{}}, typeOf("int16"), true)
	v := api.Value{Kind: api.KStruct, L: []api.Value{}, F: []api.Entry{}}
	converted(t, empty, s, "A", v, record())
	converted(t, s, empty, "A", record(), v)
}

// R7

// Nothing of a call is kept.
func TestCallsAreIndependent(t *testing.T) {
	from, to := schemaOf(more), schemaOf(fewer)
	x := conversions()[3]
	v, want := structOf(from, "Top", x.from), structOf(to, "Top", x.to)
	forSomePairs(9, func(a, b api.Schema) {
		callAll(a, b, "A", v)
		converted(t, from, to, "Top", v, want)
		issued(t, to, from, "Arm", "Arm 1 3, Point 1 2")
		notMerged(t, from, to, api.ErrIncompatible)
	})
}
