package evolve_test

import (
	"math/rand"
	"slices"
	"strings"
	"testing"

	"robotics/api"
	"robotics/evolve"
	"robotics/schema"
)

// P12.2 and P12.3: what is checked of Issues is checked of Compatible, too.

func TestIssuesExamples(t *testing.T) {
	must, may := schemaOf("struct Top { 1 x: int8; 2 y: int8; }"), schemaOf("struct Top { 1 x: int8; 2 y: int8?; }")
	issued(t, must, may, "Top", "Top 3 2")
	small, big := schemaOf("struct Top { 1 x: int8; }"), schemaOf("struct Top { 1 x: int16; }")
	issued(t, small, big, "Top", "")
	issued(t, big, small, "Top", "Top 1 1")
}

// change is what happens to a schema, and the issues of its struct Top, in
// this direction and in the other one.
type change struct{ old, new, issues, back string }

func checkChanges(t *testing.T, changes []change) {
	t.Helper()
	for _, x := range changes {
		old, new := schemaOf(x.old), schemaOf(x.new)
		issued(t, old, new, "Top", x.issues)
		issued(t, new, old, "Top", x.back)
		issued(t, old, old, "Top", "")
		issued(t, new, new, "Top", "")
	}
}

// The types of a field.
func TestIssuesOfTypes(t *testing.T) {
	types := []string{"bool", "int8", "int64", "uint8", "uint32", "text[1]", "text[2]", "Point", "Mode", "list[2] of int8", "list[3] of int8", "list[2] of int64", "list[2] of Point", "list[2] of Mode"}
	for _, a := range types {
		for _, b := range types {
			old, new := schemaOf(sample+"struct T { 5 x: "+a+"; 127 y: "+a+"?; }"), schemaOf(sample+"struct T { 5 x: "+b+"; 127 y: "+b+"?; }")
			want := "T 1 5, T 1 127"
			if widens(old.Structs[3].Fields[0].Type, new.Structs[3].Fields[0].Type) {
				want = ""
			}
			issued(t, old, new, "T", want)
		}
	}
}

func TestIssuesOfFields(t *testing.T) {
	checkChanges(t, []change{
		{"struct Top { }", "struct Top { }", "", ""},
		{"struct Top { }", "struct Top { 1 x: int8?; }", "", ""},
		{"struct Top { }", "struct Top { 1 x: int8; }", "Top 2 1", "Top 2 1"},
		{"struct Top { }", "struct Top { 127 x: int8; }", "Top 2 127", "Top 2 127"},
		{"struct Top { 1 x: int8; }", "struct Top { 2 x: int8; }", "Top 2 1, Top 2 2", "Top 2 1, Top 2 2"},
		{"struct Top { 1 x: int8?; }", "struct Top { 2 x: int8?; }", "", ""},
		{"struct Top { 1 x: int8; }", "struct Top { 2 x: int8?; }", "Top 2 1", "Top 2 1"},
		{"struct Top { 1 x: int8?; }", "struct Top { 1 x: int8; }", "Top 3 1", "Top 3 1"},
		{"struct Top { 1 x: int8?; }", "struct Top { 1 x: int16; }", "Top 3 1", "Top 1 1, Top 3 1"},
		{"struct Top { 1 x: int8?; }", "struct Top { 1 x: bool; }", "Top 1 1, Top 3 1", "Top 1 1, Top 3 1"},
		{"struct Top { 1 x: int8?; }", "struct Top { 1 x: int16?; }", "", "Top 1 1"},
		{"struct Top { 1 x: int8; 2 y: bool; }", "struct Top { 1 y: int8; 2 x: bool; }", "", ""},
		{"struct Top { 1 a: bool; 2 b: int8; 3 c: bool?; 4 d: bool; 9 e: int8; }", "struct Top { 2 b: bool; 3 c: bool; 5 f: bool; 6 g: bool?; 9 e: text[1]?; }", "Top 1 2, Top 1 9, Top 2 1, Top 2 4, Top 2 5, Top 3 3, Top 3 9", "Top 1 2, Top 1 9, Top 2 1, Top 2 4, Top 2 5, Top 3 3, Top 3 9"},
	})
}

// An enumeration may get new names, and other names for its numbers.
func TestIssuesOfEnumerations(t *testing.T) {
	with := func(enum string) string { return "enum Mode { " + enum + " } struct Top { 1 m: Mode; }" }
	checkChanges(t, []change{
		{with("a = 0"), with("b = 0"), "", ""},
		{with("a = 0"), with("a = 0, b = 1"), "", "Mode 4 1"},
		{with("a = 0, b = 127"), with("b = 0, a = 127"), "", ""},
		{with("a = 0, b = 1"), with("a = 0, b = 2"), "Mode 4 1", "Mode 4 2"},
		{with("a = 0, b = 1, c = 3, d = 4"), with("a = 0, d = 2, c = 3, e = 127"), "Mode 4 1, Mode 4 4", "Mode 4 2, Mode 4 127"},
		{with("a = 0, b = 1") + "enum Other { a = 0, b = 1 }", with("a = 0, b = 1") + "enum Other { a = 0 }", "", ""},
	})
}

// A name that is a struct in one schema, and an enumeration or nothing in the
// other.
func TestIssuesOfStructsInOneSchema(t *testing.T) {
	checkChanges(t, []change{
		{"struct Top { }", "", "Top 5 0", "Top 5 0"},
		{"struct Top { 1 x: bool; }", "struct Other { }", "Top 5 0", "Top 5 0"},
		{"struct Top { 1 x: bool; }", "enum Top { a = 0 }", "Top 5 0", "Top 5 0"},
		{"struct X { 1 x: bool; } struct Top { 1 x: X; }", "enum X { a = 0 } struct Top { 1 x: X; }", "Top 1 1, X 5 0", "Top 1 1, X 5 0"},
		{"struct A { 1 x: bool; } struct Top { 1 x: A?; }", "enum A { a = 0 } struct Top { 2 x: A?; }", "A 5 0", "A 5 0"},
		{"struct A { 1 x: list[2] of bool; } struct Top { 1 x: A; }", "enum A { a = 0 } struct Top { 1 x: list[1] of A; }", "A 5 0, Top 1 1", "A 5 0, Top 1 1"},
		{"struct A { } enum B { b = 0 } struct Top { 1 x: A?; 3 y: B?; }", "struct B { } enum A { b = 0 } struct Top { 2 x: A?; 4 y: B?; }", "A 5 0, B 5 0", "A 5 0, B 5 0"},
	})
}

// Names that both structs use, by any fields and in any depth, and names that
// only one of them uses.
func TestComparedNames(t *testing.T) {
	checkChanges(t, []change{
		{"struct A { 1 x: int8; } struct Top { 1 a: A; }", "struct A { 1 x: int16; } struct Top { 1 a: A; }", "", "A 1 1"},
		{"struct A { 1 x: bool; } struct Top { 1 a: A; }", "struct A { } struct Top { 1 a: A; }", "A 2 1", "A 2 1"},
		{"struct A { 1 x: bool; } struct Top { 1 a: list[2] of list[2] of A; }", "struct A { } struct Top { 1 a: list[2] of list[2] of A; }", "A 2 1", "A 2 1"},
		{"struct A { 1 x: bool; } struct Top { 1 a: A?; }", "struct A { } struct Top { 1 a: A?; }", "A 2 1", "A 2 1"},
		// By different fields.
		{"struct A { 1 x: bool; } struct Top { 1 a: A?; }", "struct A { } struct Top { 2 a: A?; }", "A 2 1", "A 2 1"},
		{"struct A { 1 x: bool; } struct B { 1 a: A; } struct Top { 1 b: B?; }", "struct A { } struct Top { 2 a: list[3] of A?; }", "A 2 1", "A 2 1"},
		// Deep below.
		{"enum M { a = 0, b = 1 } struct C { 1 m: M; 2 x: int8; } struct B { 1 c: C; } struct A { 1 b: list[2] of B; } struct Top { 1 a: A; }", "enum M { a = 0 } struct C { 1 m: M; 2 x: bool; } struct B { 1 c: C; } struct A { 1 b: list[2] of B; } struct Top { 1 a: A; }", "C 1 2, M 4 1", "C 1 2"},
		// By only one of them, or by none.
		{"struct A { 1 x: bool; } struct Top { 1 a: A?; }", "struct A { } struct Top { }", "", ""},
		{"struct A { 1 x: bool; } struct Top { 1 a: A?; }", "struct Top { }", "", ""},
		{"struct A { 1 x: bool; } struct Top { }", "struct A { } struct Top { }", "", ""},
		{"struct A { 1 x: bool; } struct B { 1 a: A?; } struct Top { 1 b: B; }", "struct A { } struct B { } struct Top { 1 b: B; }", "", ""},
		{"enum A { a = 0, b = 1 } struct Top { 1 a: A?; }", "enum A { a = 0 } struct Top { }", "", ""},
		{"struct A { 1 x: bool; } struct Top { 1 a: A?; }", "enum A { a = 0 } struct Top { }", "", ""},
		{"struct A { 1 x: bool; } struct B { } struct Top { 1 a: A; 2 b: B?; }", "struct A { 1 x: bool; } struct B { 1 x: bool; } struct Top { 1 a: A; }", "", ""},
		// What uses Top is not compared.
		{"struct A { 1 t: Top; 2 x: bool; } struct Top { }", "struct A { 1 t: Top; } struct Top { }", "", ""},
	})
}

// Each issue once, also of what is used many times, in the order of Type, then
// Kind, then Number.
func TestOrderOfIssues(t *testing.T) {
	old := schemaOf(`
		enum Mode { a = 0, b = 1, c = 2 }
		enum Ant { a = 0, b = 7 }
		struct Zed { 1 a: Mode; 2 b: Mode?; 3 c: list[2] of Mode; 5 d: Ant; }
		struct Arm { 2 a: Zed; 4 b: Zed; 9 c: int16; 10 d: bool; 11 e: uint8?; 20 f: text[3]; }
		struct Bar { 1 x: bool; }
		struct Top { 1 a: Arm; 2 b: list[2] of Arm; 3 z: Zed; 4 bar: Bar?; 6 x: int8; 7 y: int8; }
	`)
	new := schemaOf(`
		struct Top { 1 a: Arm; 2 b: list[1] of Arm; 3 z: Zed?; 5 bar: Bar?; 7 y: uint8?; 8 q: bool; }
		struct Arm { 2 a: Zed; 4 b: Zed?; 9 c: int8; 11 e: uint8; 12 g: bool; 20 f: text[2]; }
		enum Bar { x = 0 }
		struct Zed { 1 a: Mode; 2 b: Mode; 3 c: list[1] of Mode; 4 e: int64; }
		enum Ant { a = 0 }
		enum Mode { a = 0, d = 3 }
	`)
	issued(t, old, new, "Top", "Arm 1 9, Arm 1 20, Arm 2 10, Arm 2 12, Arm 3 4, Arm 3 11, Bar 5 0, Mode 4 1, Mode 4 2, Top 1 2, Top 1 7, Top 2 6, Top 2 8, Top 3 3, Top 3 7, Zed 1 3, Zed 2 4, Zed 2 5, Zed 3 2")
	issued(t, new, old, "Top", "Arm 2 10, Arm 2 12, Arm 3 4, Arm 3 11, Bar 5 0, Mode 4 3, Top 1 7, Top 2 6, Top 2 8, Top 3 3, Top 3 7, Zed 2 4, Zed 2 5, Zed 3 2")
	issued(t, old, new, "Zed", "Mode 4 1, Mode 4 2, Zed 1 3, Zed 2 4, Zed 2 5, Zed 3 2")
	issued(t, old, new, "Mode", "Mode 4 1, Mode 4 2")
	issued(t, old, new, "Ant", "Ant 4 7")
	issued(t, new, old, "Ant", "")
	issued(t, old, new, "Bar", "Bar 5 0")
	// By bytes.
	issued(t, schemaOf("struct AB { 1 x: bool; } struct Aa { 1 x: bool; } struct A_ { 1 x: bool; } struct A { 1 x: bool; } struct A1 { 1 x: bool; } struct Top { 1 a: AB; 2 b: Aa; 3 c: A_; 4 d: A; 5 e: A1; }"),
		schemaOf("struct AB { } struct Aa { } struct A_ { } struct A { } struct A1 { } struct Top { 1 a: AB; 2 b: Aa; 3 c: A_; 4 d: A; 5 e: A1; }"), "Top", "A 2 1, A1 2 1, AB 2 1, A_ 2 1, Aa 2 1")
}

// A name may be that of an enumeration, or of nothing.
func TestIssuesOfOtherNames(t *testing.T) {
	s := schemaOf(sample)
	for _, name := range strangeNames() {
		issued(t, s, s, name, "")
		issued(t, s, schemaOf("struct Top { }"), name, "")
		issued(t, api.Schema{Version: 1}, s, name, "")
	}
	issued(t, s, s, "Mode", "")
	issued(t, s, api.Schema{Version: 1}, "Mode", "")
	issued(t, api.Schema{Version: 1}, s, "Mode", "")
	issued(t, s, schemaOf("enum Mode { idle = 0, run = 2 } struct Top { }"), "Mode", "Mode 4 1, Mode 4 5")
	issued(t, schemaOf("enum Mode { idle = 0, run = 2 }"), s, "Mode", "Mode 4 2")
	issued(t, s, schemaOf("struct Mode { }"), "Mode", "Mode 5 0")
}

// Nothing but the types of fields and numbers is compared.
func TestWhatDoesNotMatter(t *testing.T) {
	old, new := schemaOf(sample), schemaOf(sample)
	new.Version = 999
	slices.Reverse(new.Structs)
	slices.Reverse(new.Enums)
	for i := range new.Structs {
		for k := range new.Structs[i].Fields {
			new.Structs[i].Fields[k].Name = strings.Repeat("q", k+1)
		}
	}
	for i := range new.Enums {
		for k := range new.Enums[i].Names {
			new.Enums[i].Names[k] = strings.Repeat("q", k+1)
		}
	}
	for _, name := range []string{"Top", "Arm", "Point", "Mode", "Side"} {
		issued(t, old, new, name, "")
		issued(t, new, old, name, "")
	}
}

func TestIssuesOfSchemasThatAreNotValid(t *testing.T) {
	s := schemaOf(sample)
	other := schemaOf("struct Top { 99 x: bool; }")
	for _, x := range invalidSchemas() {
		for _, name := range append(strangeNames(), "Top", "Arm", "Point", "Mode") {
			issued(t, s, x, name, "")
			issued(t, x, s, name, "")
			issued(t, x, x, name, "")
			issued(t, other, x, name, "")
			issued(t, x, other, name, "")
		}
	}
}

// Pairs of random schemas, with each kind of issue.
func TestIssues(t *testing.T) {
	kinds, several, compatible := map[int]int{}, 0, 0
	forPairs(func(a, b api.Schema) {
		for i := range 7 {
			name := string(rune('A' + i))
			want := issues(a, b, name)
			issued(t, a, b, name, written(want))
			seen := map[int]bool{}
			for _, x := range want {
				seen[x.Kind] = true
			}
			for kind := range seen {
				kinds[kind]++
			}
			if len(seen) > 1 {
				several++
			}
			if evolve.Compatible(a, b, name) && text(a) != text(b) {
				compatible++
			}
		}
	})
	for kind := 1; kind <= 5; kind++ {
		if kinds[kind] < 300 {
			t.Errorf("only %d pairs with an issue of the kind %d", kinds[kind], kind)
		}
	}
	if several < 500 || compatible < 5000 {
		t.Errorf("%d pairs with several kinds, %d that are compatible", several, compatible)
	}
}

// P12.3

func TestCompatible(t *testing.T) {
	compatible := func(old, new api.Schema, name string, want bool) {
		t.Helper()
		if got := evolve.Compatible(old, new, name); got != want {
			t.Errorf("Compatible(%q) = %v; from\n%s to\n%s", name, got, show(old), show(new))
		}
	}
	s := schemaOf(sample)
	less, more := schemaOf("struct Top { 1 x: int8; }"), schemaOf("struct Top { 1 x: int16; 2 y: bool?; }")
	none, enum := api.Schema{Version: 1}, schemaOf("enum Top { a = 0 }")
	compatible(less, less, "Top", true)
	compatible(less, more, "Top", true)
	compatible(more, less, "Top", false)
	compatible(s, less, "Top", false)
	compatible(s, s, "Arm", true)
	for _, x := range []api.Schema{none, enum, {}, s} {
		for _, name := range append(strangeNames(), "Top", "Mode", "Leg") {
			isSame := name == "Top" && len(x.Structs) > 0
			compatible(x, x, name, isSame)
			compatible(x, less, name, false)
			compatible(less, x, name, false)
		}
	}
	for _, x := range invalidSchemas() {
		compatible(x, s, "Top", false)
		compatible(s, x, "Top", false)
		compatible(x, x, "Top", false)
	}
}

// P12.8: each struct is compatible with itself.
func TestStructsAreCompatibleWithThemselves(t *testing.T) {
	check := func(s api.Schema) {
		for _, x := range s.Structs {
			issued(t, s, cloned(s), x.Name, "")
			if !evolve.Compatible(s, s, x.Name) {
				t.Errorf("%s is not compatible with itself in\n%s", x.Name, text(s))
			}
		}
	}
	r := rand.New(rand.NewSource(5))
	for range 2000 {
		check(randomSchema(r))
	}
	for _, s := range strangeSchemas() {
		if schema.Check(s) == api.OK {
			check(s)
		}
	}
}
