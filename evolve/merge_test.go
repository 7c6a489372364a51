package evolve_test

import (
	"fmt"
	"slices"
	"strings"
	"testing"

	"robotics/api"
	"robotics/evolve"
	"robotics/schema"
)

// P12.6

// mergedTexts checks what Merge makes of two texts, and of the same one twice.
func mergedTexts(t *testing.T, a, b, want string) {
	t.Helper()
	merged(t, schemaOf(a), schemaOf(b), schemaOf(want))
	merged(t, schemaOf(a), schemaOf(a), schemaOf(a))
	merged(t, schemaOf(want), schemaOf(b), schemaOf(want))
	merged(t, schemaOf(a), schemaOf(want), schemaOf(want))
}

// notMergedTexts checks that Merge returns an error in both directions.
func notMergedTexts(t *testing.T, a, b string, want api.Errno) {
	t.Helper()
	notMerged(t, schemaOf(a), schemaOf(b), want)
	notMerged(t, schemaOf(b), schemaOf(a), want)
}

func TestMergedVersions(t *testing.T) {
	for _, x := range []struct{ a, b, want int }{{1, 1, 1}, {1, 2, 2}, {2, 1, 2}, {999, 3, 999}, {3, 999, 999}, {10, 9, 10}} {
		merged(t, api.Schema{Version: x.a}, api.Schema{Version: x.b}, api.Schema{Version: x.want})
		a, b, want := schemaOf(sample), schemaOf(sample), schemaOf(sample)
		a.Version, b.Version, want.Version = x.a, x.b, x.want
		merged(t, a, b, want)
	}
}

// Those of a in order, then those that only b has.
func TestMergedDefinitions(t *testing.T) {
	mergedTexts(t, "", "", "")
	mergedTexts(t, "", sample, sample)
	mergedTexts(t, sample, "", sample)
	mergedTexts(t, "enum Z { a = 0 }", "struct A { }", "enum Z { a = 0 } struct A { }")
	mergedTexts(t, "enum C { a = 0 } enum A { a = 0 } struct Z { } struct X { }", "enum D { a = 0 } enum A { a = 0 } enum B { a = 0 } enum C { a = 0 } struct Y { } struct X { } struct W { }",
		"enum C { a = 0 } enum A { a = 0 } enum D { a = 0 } enum B { a = 0 } struct Z { } struct X { } struct Y { } struct W { }")
	mergedTexts(t, "struct A { 1 x: bool; }", "struct B { 1 x: int8; }", "struct A { 1 x: bool; } struct B { 1 x: int8; }")
	mergedTexts(t, "struct A { } struct B { 1 a: A; }", "struct C { } struct A { 2 c: C?; }", "struct A { 2 c: C?; } struct B { 1 a: A; } struct C { }")
}

func TestMergedEnumerations(t *testing.T) {
	mergedTexts(t, "enum A { a = 0 }", "enum A { a = 0 }", "enum A { a = 0 }")
	mergedTexts(t, "enum A { a = 0, c = 2 }", "enum A { a = 0, b = 1, d = 127 }", "enum A { a = 0, b = 1, c = 2, d = 127 }")
	mergedTexts(t, "enum A { z = 0, y = 5 }", "enum A { z = 0, x = 4, y = 5, w = 6 }", "enum A { z = 0, x = 4, y = 5, w = 6 }")
	mergedTexts(t, "enum A { a = 0, b = 127 }", "enum A { a = 0, c = 126, b = 127 }", "enum A { a = 0, c = 126, b = 127 }")
	for _, b := range []string{
		"enum A { x = 0 }", "enum A { b = 0 }", "enum A { a = 0, x = 1 }", "enum A { a = 0, c = 1 }", "enum A { a = 0, b = 2 }", "enum A { a = 0, b = 3 }", "enum A { a = 0, c = 1, b = 2 }",
		"enum A { b = 0, a = 1 }", "enum A { a = 0, x = 2 }", "enum A { a = 0, b = 1, x = 2 }", "enum A { a = 0, c = 127 }",
	} {
		notMergedTexts(t, "enum A { a = 0, b = 1, c = 2 }", b, api.ErrIncompatible)
		notMergedTexts(t, "enum Z { a = 0 } enum A { a = 0, b = 1, c = 2 } struct X { }", b+" enum Y { a = 0 } struct X { }", api.ErrIncompatible)
	}
	// The names of other enumerations do not matter.
	mergedTexts(t, "enum A { a = 0, b = 1 }", "enum B { b = 0, a = 1 }", "enum A { a = 0, b = 1 } enum B { b = 0, a = 1 }")
}

func TestMergedFields(t *testing.T) {
	mergedTexts(t, "struct A { 1 x: bool; }", "struct A { 1 x: bool; }", "struct A { 1 x: bool; }")
	mergedTexts(t, "struct A { 1 x: bool?; }", "struct A { 1 x: bool?; }", "struct A { 1 x: bool?; }")
	mergedTexts(t, "struct A { }", "struct A { 1 x: bool?; 127 y: bool?; }", "struct A { 1 x: bool?; 127 y: bool?; }")
	mergedTexts(t, "struct A { 1 x: bool?; 127 y: bool?; }", "struct A { }", "struct A { 1 x: bool?; 127 y: bool?; }")
	mergedTexts(t, "struct A { 2 b: bool?; 4 d: int8; 6 f: bool?; }", "struct A { 1 a: text[3]?; 3 c: bool?; 4 e: int8; 9 g: bool?; }",
		"struct A { 1 a: text[3]?; 2 b: bool?; 3 c: bool?; 4 d: int8; 6 f: bool?; 9 g: bool?; }")
	// The name is that in a.
	mergedTexts(t, "struct A { 1 x: bool; 2 y: bool?; }", "struct A { 1 a: bool; 2 b: bool?; }", "struct A { 1 x: bool; 2 y: bool?; }")
	mergedTexts(t, "struct A { 1 x: bool; 2 y: bool?; }", "struct A { 1 y: bool; 2 x: bool?; }", "struct A { 1 x: bool; 2 y: bool?; }")
	mergedTexts(t, "struct A { 1 x: int8; }", "struct A { 1 y: int16; }", "struct A { 1 x: int16; }")
	mergedTexts(t, "struct A { 1 x: int16; }", "struct A { 1 y: int8; }", "struct A { 1 x: int16; }")
	// A field that is not optional is in both.
	notMergedTexts(t, "struct A { }", "struct A { 1 x: bool; }", api.ErrIncompatible)
	notMergedTexts(t, "struct A { 1 x: bool; }", "struct A { 2 x: bool; }", api.ErrIncompatible)
	notMergedTexts(t, "struct A { 1 x: bool?; }", "struct A { 1 x: bool?; 127 y: bool; }", api.ErrIncompatible)
	notMergedTexts(t, "struct A { 1 x: bool; 2 y: bool?; }", "struct A { 2 y: bool?; }", api.ErrIncompatible)
	notMergedTexts(t, "struct Z { } struct A { 1 x: bool; }", "struct A { } struct Z { }", api.ErrIncompatible)
	// And so are those that are.
	notMergedTexts(t, "struct A { 1 x: bool?; }", "struct A { 1 x: bool; }", api.ErrIncompatible)
	notMergedTexts(t, "struct A { 1 x: int8?; }", "struct A { 1 x: int16; }", api.ErrIncompatible)
	notMergedTexts(t, "struct A { 1 x: bool; 127 y: int8; }", "struct A { 1 x: bool; 127 y: int8?; }", api.ErrIncompatible)
}

// Either type widens the other one, or none does.
func TestMergedTypes(t *testing.T) {
	const others = "enum E { a = 0 } enum F { a = 0 } struct P { } struct Q { }"
	for _, x := range []struct{ a, b, want string }{
		{"int8", "int64", "int64"}, {"uint8", "uint32", "uint32"}, {"text[1]", "text[2000]", "text[2000]"}, {"list[2] of P", "list[32] of P", "list[32] of P"},
		{"list[2] of int8", "list[2] of int16", "list[2] of int16"}, {"list[2] of list[2] of text[1]", "list[2] of list[3] of text[2]", "list[2] of list[3] of text[2]"},
		{"P", "P", "P"}, {"E", "E", "E"}, {"bool", "bool", "bool"}, {"list[4] of E", "list[4] of E", "list[4] of E"},
		{"int8", "uint8", ""}, {"bool", "int8", ""}, {"text[1]", "list[1] of text[1]", ""}, {"P", "Q", ""}, {"E", "F", ""}, {"E", "P", ""}, {"P", "list[1] of P", ""},
		{"list[2] of int16", "list[3] of int8", ""}, {"list[3] of list[2] of bool", "list[2] of list[3] of bool", ""}, {"list[2] of int8", "list[2] of uint8", ""}, {"uint8", "int16", ""},
	} {
		of := func(field string) string {
			return fmt.Sprintf(others+"struct A { 1 x: %s; 2 y: list[3] of %s; 9 z: %s?; }", field, field, field)
		}
		if x.want == "" {
			notMergedTexts(t, of(x.a), of(x.b), api.ErrIncompatible)
			continue
		}
		mergedTexts(t, of(x.a), of(x.b), of(x.want))
		mergedTexts(t, of(x.b), of(x.a), of(x.want))
	}
	mergedTexts(t, "struct A { 1 x: int8; 2 y: int64; 3 z: text[5]; }", "struct A { 1 x: int16; 2 y: int8; 3 z: text[4]; }", "struct A { 1 x: int16; 2 y: int64; 3 z: text[5]; }")
}

// Names of a struct in one schema and of an enumeration in the other.
func TestMergeOfStructsWithEnumerations(t *testing.T) {
	notMergedTexts(t, "struct A { }", "enum A { a = 0 }", api.ErrIncompatible)
	notMergedTexts(t, "enum B { a = 0 } struct A { 1 b: B; }", "enum A { a = 0 } struct B { }", api.ErrIncompatible)
	notMergedTexts(t, "struct X { } struct Y { } struct A { }", "enum X1 { a = 0 } enum A { a = 0 } struct X { } struct Y { }", api.ErrIncompatible)
	notMergedTexts(t, "struct A { } struct B { 1 x: A; }", "enum A { a = 0 } struct B { 1 x: A; }", api.ErrIncompatible)
}

// Schemas that are valid, but not together.
func TestMergeOfSchemasThatAreTooMuch(t *testing.T) {
	many := func(kind string, from, to int) string {
		all := ""
		for i := from; i < to; i++ {
			all += fmt.Sprintf(kind, i, i, i)
		}
		return all
	}
	const structs, enums, fields, names = "struct S%d { %d f%d: bool; } ", "enum E%d { a%d = 0, b%d = 1 } ", "%d f%d: text[%d]?; ", "n%d = %d, # %d\n"
	mergedTexts(t, many(structs, 1, 9), many(structs, 9, 17), many(structs, 1, 17))
	mergedTexts(t, many(structs, 1, 10), many(structs, 8, 17), many(structs, 1, 17))
	mergedTexts(t, many(structs, 1, 9), many(enums, 9, 17), many(structs, 1, 9)+many(enums, 9, 17))
	notMergedTexts(t, many(structs, 1, 10), many(structs, 10, 18), api.ErrLong)
	notMergedTexts(t, many(structs, 1, 17), "struct A { }", api.ErrLong)
	notMergedTexts(t, many(structs, 1, 17), "enum A { a = 0 }", api.ErrLong)
	notMergedTexts(t, many(enums, 1, 17), "enum A { a = 0 }", api.ErrLong)
	notMergedTexts(t, many(enums, 1, 10), many(structs, 1, 9), api.ErrLong)

	of := func(from, to int) string { return "struct A { " + many(fields, from, to) + "}" }
	mergedTexts(t, of(1, 9), of(9, 17), of(1, 17))
	mergedTexts(t, of(1, 12), of(4, 17), of(1, 17))
	notMergedTexts(t, of(1, 10), of(10, 18), api.ErrLong)
	notMergedTexts(t, of(1, 17), of(17, 18), api.ErrLong)
	notMergedTexts(t, of(2, 18), of(1, 17), api.ErrLong)

	named := func(from, to int) string { return "enum A { zero = 0, " + many(names, from, to) + "last = 127 }" }
	mergedTexts(t, named(1, 8), named(8, 15), named(1, 15))
	notMergedTexts(t, named(1, 9), named(9, 16), api.ErrLong)
	notMergedTexts(t, named(1, 15), named(2, 16), api.ErrLong)
}

func TestMergeToSchemasThatAreNotValid(t *testing.T) {
	// A name twice in a struct.
	notMergedTexts(t, "struct A { 1 x: bool?; }", "struct A { 2 x: bool?; }", api.ErrExists)
	notMergedTexts(t, "struct A { 1 x: bool?; 2 y: bool; }", "struct A { 2 y: bool; 9 x: int8?; }", api.ErrExists)
	notMerged(t, schemaOf("struct A { 1 x: bool; 2 y: bool?; }"), schemaOf("struct A { 1 z: bool; 3 y: bool?; }"), api.ErrExists)
	// Only one of the two orders, as the name is that in the first schema.
	a, b := schemaOf("struct A { 1 x: bool; }"), schemaOf("struct A { 1 y: bool; 2 x: bool?; }")
	notMerged(t, a, b, api.ErrExists)
	merged(t, b, a, b)
	// A cycle.
	notMergedTexts(t, "struct A { 1 b: B?; } struct B { }", "struct A { } struct B { 1 a: A?; }", api.ErrCycle)
	notMergedTexts(t, "struct A { 1 b: B?; } struct B { 1 c: list[2] of C?; } struct C { }", "struct A { } struct C { 1 a: A?; }", api.ErrCycle)
	// A nesting that is too deep.
	deep := "struct C { 1 d: list[2] of list[2] of list[2] of bool; } struct B { 1 c: C; }"
	mergedTexts(t, "struct A { 1 b: B?; } struct B { }", "struct B { 9 c: list[3] of list[3] of list[3] of bool?; }", "struct A { 1 b: B?; } struct B { 9 c: list[3] of list[3] of list[3] of bool?; }")
	mergedTexts(t, "struct A { } "+deep, "struct A { 1 b: B?; } struct B { 1 c: C; } struct C { 1 d: list[2] of list[2] of list[2] of bool; }", "struct A { 1 b: B?; } "+deep)
	notMergedTexts(t, "struct A { 1 b: list[2] of B?; } struct B { 1 c: C?; } struct C { }", "struct C { 1 d: list[2] of list[2] of list[2] of bool?; }", api.ErrDepth)
}

// The errors of the first schema are before those of the second one, these
// before ErrIncompatible, and this before the errors of the result.
func TestOrderOfErrorsOfMerge(t *testing.T) {
	good, clash := schemaOf(sample), schemaOf("struct Mode { } struct Top { 1 n: bool; }")
	invalid := invalidSchemas()
	errors := map[api.Errno]bool{}
	for _, x := range invalid {
		e := schema.Check(x)
		errors[e] = true
		for _, y := range []api.Schema{good, clash, {Version: 1}} {
			notMerged(t, x, y, e)
			notMerged(t, y, x, e)
		}
		for _, y := range invalid {
			notMerged(t, x, y, e)
		}
	}
	for _, e := range []api.Errno{api.ErrRange, api.ErrLong, api.ErrName, api.ErrExists, api.ErrFormat, api.ErrType, api.ErrCycle, api.ErrDepth} {
		if !errors[e] {
			t.Errorf("no schema with %v", e)
		}
	}
	notMerged(t, good, clash, api.ErrIncompatible)
	notMerged(t, clash, good, api.ErrIncompatible)
	for _, x := range []string{
		"enum M { a = 0 }", "struct M { 1 x: bool; }", "struct M { 1 x: bool?; }", "struct M { 3 z: int8?; }",
	} {
		y := "struct M { 1 x: int8; 3 z: bool; }"
		notMergedTexts(t, x+"struct A { 1 x: bool?; }", y+"struct A { 2 x: bool?; }", api.ErrIncompatible)
		notMergedTexts(t, x+"struct A { 1 b: B?; } struct B { }", y+"struct B { 1 a: A?; } struct A { }", api.ErrIncompatible)
		notMergedTexts(t, "struct A { 1 b: B?; } struct B { }"+x, "struct B { 1 a: A?; } struct A { }"+y, api.ErrIncompatible)
	}
	// Of the result, the first error.
	notMergedTexts(t, "struct A { 1 x: bool?; } struct B { 1 c: C?; } struct C { }", "struct A { 2 x: bool?; } struct C { 1 b: B?; } struct B { }", api.ErrExists)
}

// P12.6 and P12.9: pairs of random schemas.
func TestMerge(t *testing.T) {
	errors := map[api.Errno]int{}
	forPairs(func(a, b api.Schema) {
		want, e := merge(a, b)
		errors[e]++
		if e != api.OK {
			notMerged(t, a, b, e)
			return
		}
		merged(t, a, b, want)
		bothCompatible(t, a, b)
	})
	for e, count := range map[api.Errno]int{api.OK: 1000, api.ErrIncompatible: 1000, api.ErrExists: 30, api.ErrCycle: 5, api.ErrDepth: 1} {
		if errors[e] < count {
			t.Errorf("only %d pairs with %v", errors[e], e)
		}
	}
}

// bothCompatible checks that two schemas are compatible with what Merge makes
// of them, for every struct that they have.
func bothCompatible(t *testing.T, a, b api.Schema) {
	t.Helper()
	both, e := evolve.Merge(a, b)
	if e != api.OK {
		t.Errorf("Merge returns %v of\n%s and\n%s", e, text(a), text(b))
	}
	for _, s := range []api.Schema{a, b} {
		for _, x := range s.Structs {
			issued(t, s, both, x.Name, "")
			if !evolve.Compatible(s, both, x.Name) {
				t.Errorf("%s is not compatible, from\n%s to\n%s", x.Name, text(s), text(both))
			}
		}
	}
}

// P12.9

func TestSchemasAreCompatibleWithMerged(t *testing.T) {
	for _, x := range []struct{ a, b string }{
		{"", ""}, {sample, ""}, {"", sample}, {sample, sample}, {more, "struct Leg { }"},
		{"enum A { a = 0, b = 2 } struct B { 1 a: A; }", "enum A { a = 0, c = 1 } struct B { 1 x: A; 2 y: A?; }"},
		{"struct A { 1 x: int8; 2 y: text[9]; } struct B { 1 a: A; }", "struct A { 1 x: int16; 2 y: text[8]; 3 z: bool?; } struct C { 1 a: list[3] of A; }"},
		{"struct A { 1 x: list[2] of int8; }", "struct A { 1 x: list[3] of int16; }"},
	} {
		bothCompatible(t, schemaOf(x.a), schemaOf(x.b))
		bothCompatible(t, schemaOf(x.b), schemaOf(x.a))
	}
}

// The merged schema is the same in both directions, but for the order of the
// definitions and the names of fields.
func TestMergeInBothDirections(t *testing.T) {
	compared := 0
	forPairs(func(a, b api.Schema) {
		x, e := evolve.Merge(a, b)
		y, f := evolve.Merge(b, a)
		if e != api.OK || f != api.OK {
			return
		}
		compared++
		for _, s := range []*api.Schema{&x, &y} {
			slices.SortFunc(s.Enums, func(x, y api.Enum) int { return strings.Compare(x.Name, y.Name) })
			slices.SortFunc(s.Structs, func(x, y api.Struct) int { return strings.Compare(x.Name, y.Name) })
			for _, z := range s.Structs {
				for i := range z.Fields {
					z.Fields[i].Name = fieldName(z.Fields[i].Number)
				}
			}
		}
		if text(x) != text(y) {
			t.Errorf("%s and\n%s of\n%s and\n%s", text(x), text(y), text(a), text(b))
		}
	})
	if compared < 1000 {
		t.Errorf("only %d pairs are merged", compared)
	}
}
