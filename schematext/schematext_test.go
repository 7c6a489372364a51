package schematext_test

import (
	"slices"
	"strconv"
	"strings"
	"testing"

	"robotics/api"
	"robotics/schematext"
)

// P8.1

func TestParseExamples(t *testing.T) {
	parsed(t, "version 1;", api.Schema{Version: 1}, api.OK, 0)
	refused(t, "version 1", api.ErrFormat, 9)
	refused(t, "version 0;", api.ErrRange, 0)
	refused(t, "version 1; struct a { }", api.ErrFormat, 18)
	parsed(t, canonical, example(), api.OK, 0)
	parsed(t, "version 2; # remark\nstruct A { 1 b: B; } enum B { c = 0 }", api.Schema{
		Version: 2,
		Enums:   []api.Enum{enum("B", "c")},
		Structs: []api.Struct{structure("A", field(1, "b", enumType("B")))},
	}, api.OK, 0)
	refused(t, "version 1; struct A { 1 b: B; }", api.ErrType, 0)
}

// What Parse returns is what the oracle's grammar and regular expressions make
// of the text, and each error comes often enough.
func TestParse(t *testing.T) {
	seen := map[api.Errno]int{}
	forTexts(func(s string) {
		want, e, at := parse(s)
		parsed(t, s, want, e, at)
		seen[e]++
	})
	for _, e := range []api.Errno{api.OK, api.ErrFormat, api.ErrRange, api.ErrExists, api.ErrType, api.ErrCycle, api.ErrDepth} {
		if seen[e] < 20 {
			t.Errorf("only %d texts with %v", seen[e], e)
		}
	}
}

func TestTypesOfFields(t *testing.T) {
	for s, want := range map[string]api.Type{
		"bool":   boolean(),
		"int8":   integer(8),
		"int16":  integer(16),
		"int32":  integer(32),
		"int64":  integer(64),
		"uint8":  unsigned(8),
		"uint16": unsigned(16),
		"uint32": unsigned(32),
		"M":      enumType("M"),
		"S":      structType("S"),

		"text[1]":               text(1),
		"text[2000]":            text(2000),
		"list[1] of bool":       list(1, boolean()),
		"list[32] of int64":     list(32, integer(64)),
		"list[2] of text[3]":    list(2, text(3)),
		"list[3] of M":          list(3, enumType("M")),
		"list[3] of S":          list(3, structType("S")),
		"list[4]of list[5]of M": list(4, list(5, enumType("M"))),
		"list[4]of list[5]of S": list(4, list(5, structType("S"))),

		"list[1] of list[2] of list[3] of list[4] of list[5] of uint32": list(1, list(2, list(3, list(4, list(5, unsigned(32)))))),
		"list[1] of list[2] of list[3] of list[4] of list[5] of M":      list(1, list(2, list(3, list(4, list(5, enumType("M")))))),
	} {
		want := api.Schema{
			Version: 1,
			Enums:   []api.Enum{enum("M", "m")},
			Structs: []api.Struct{structure("A", field(1, "a", want), optional(2, "b", want)), structure("S")},
		}
		fields := "{1 a:" + s + ";2 b:" + s + "?;}"
		parsed(t, "version 1; struct A "+fields+" struct S {} enum M {m=0}", want, api.OK, 0)
		parsed(t, "version 1; enum M {m=0} struct A "+fields+" struct S {}", want, api.OK, 0)
		slices.Reverse(want.Structs)
		parsed(t, "version 1; struct S {} enum M {m=0} struct A "+fields, want, api.OK, 0)
	}
}

// Enumerations and structs are each in the order of the text.
func TestOrderOfDefinitions(t *testing.T) {
	want := api.Schema{
		Version: 9,
		Enums:   []api.Enum{enum("Z", "z"), enum("A", "z", "a"), enum("M", "m")},
		Structs: []api.Struct{structure("Y"), structure("B"), structure("N", field(1, "z", enumType("Z")), field(2, "a", structType("Y")))},
	}
	for _, s := range []string{
		"enum Z{z=0} enum A{z=0,a=1} enum M{m=0} struct Y{} struct B{} struct N{1 z:Z;2 a:Y;}",
		"struct Y{} struct B{} struct N{1 z:Z;2 a:Y;} enum Z{z=0} enum A{z=0,a=1} enum M{m=0}",
		"struct Y{} enum Z{z=0} struct B{} enum A{z=0,a=1} struct N{1 z:Z;2 a:Y;} enum M{m=0}",
		"enum Z{z=0} struct Y{} enum A{z=0,a=1} enum M{m=0} struct B{} struct N{1 z:Z;2 a:Y;}",
	} {
		parsed(t, "version 9;"+s, want, api.OK, 0)
	}
}

// The words of the grammar are names like others where a name is expected.
func TestWordsAsNames(t *testing.T) {
	all := words()[:16]
	want := api.Schema{Version: 1, Enums: []api.Enum{enum("E", all...)}, Structs: []api.Struct{structure("S")}}
	names, fields := []string{}, ""
	for i, word := range all {
		names = append(names, word+"="+strconv.Itoa(i))
		fields += strconv.Itoa(i+1) + " " + word + ":bool;"
		want.Structs[0].Fields = append(want.Structs[0].Fields, field(i+1, word, boolean()))
	}
	parsed(t, "version 1;enum E{"+strings.Join(names, ",")+"}struct S{"+fields+"}", want, api.OK, 0)
}

// Errors of the tokens come first, even behind a token that does not fit.
func TestErrorsOfTokensComeFirst(t *testing.T) {
	for _, x := range []struct {
		s  string
		e  api.Errno
		at int
	}{
		{"$", api.ErrFormat, 0},
		{"version 1; $", api.ErrFormat, 11},
		{"wrong ; $", api.ErrFormat, 8},
		{"wrong ; 007", api.ErrFormat, 8},
		{"wrong ; \"a", api.ErrFormat, 10},
		{"wrong ; abcdefghijklmnopq", api.ErrLong, 8},
		{"version 0; \\", api.ErrFormat, 11},
		{"version 9223372036854775808;", api.ErrRange, 8},
		{"version -9223372036854775809;", api.ErrRange, 8},
		{"version 1; struct A { 1 a: text[9223372036854775808]; }", api.ErrRange, 32},
		{"version 1; struct Abcdefghijklmnopq { }", api.ErrLong, 18},
		{"version 1a;", api.ErrFormat, 9},
		{"version1;", api.ErrFormat, 0},
		{"version 1;" + strings.Repeat(" ", 3991), api.ErrLong, 0},
		{"wrong" + strings.Repeat(" ", 3996), api.ErrLong, 0},
		{"version 0;" + strings.Repeat("#", 5000), api.ErrLong, 0},
	} {
		refused(t, x.s, x.e, x.at)
		refusedType(t, x.s, x.e, x.at)
	}
	parsed(t, "version 1;"+strings.Repeat(" ", 3990), api.Schema{Version: 1}, api.OK, 0)
	refused(t, "version 1"+strings.Repeat("#", 3991), api.ErrFormat, 4000)
}

// The offset is marked by an arrow in the text.
func TestTokensThatDoNotFit(t *testing.T) {
	for _, marked := range []string{
		"^", "  ^", " # remark\n^", "^1", "^;", "^Version 1;", "^versions 1;", "^\"version\" 1;", "^enum A { a = 0 }",
		"version ^", "version ^;", "version ^a;", "version ^version;", "version ^\"1\";", "version ^= 1;",
		"version 1^", "version 1 ^1;", "version 1^, ", "version 1 ^enum A { a = 0 }", "version 1^: ", "version 1 ^\";\"",
		"version 1; ^;", "version 1; ^a", "version 1; ^1", "version 1; ^Enum A { a = 0 }", "version 1; ^version 1;", "version 1; ^}", "version 1; ^\"enum\"", "version 1; ^A { }",
		"version 1; enum ^", "version 1; enum ^a { a = 0 }", "version 1; enum ^{ a = 0 }", "version 1; enum ^1", "version 1; enum ^\"A\" { a = 0 }", "version 1; enum ^enum A { a = 0 }", "version 1; enum ^z { a = 0 }",
		"version 1; enum A^", "version 1; enum A ^a = 0 }", "version 1; enum A ^= 0", "version 1; enum A ^B { a = 0 }", "version 1; enum A^[ a = 0 ]",
		"version 1; enum A {^", "version 1; enum A { ^}", "version 1; enum A { ^0 }", "version 1; enum A { ^, a = 0 }", "version 1; enum A { ^\"a\" = 0 }",
		"version 1; enum A { a^", "version 1; enum A { a ^}", "version 1; enum A { a ^0 }", "version 1; enum A { a ^, b = 1 }", "version 1; enum A { a ^: 0 }", "version 1; enum A { a ^b = 0 }",
		"version 1; enum A { a =^", "version 1; enum A { a = ^}", "version 1; enum A { a = ^b }", "version 1; enum A { a = ^, b = 1 }", "version 1; enum A { a =^= 0 }", "version 1; enum A { a = ^\"0\" }",
		"version 1; enum A { a = 0^", "version 1; enum A { a = 0 ^b = 1 }", "version 1; enum A { a = 0 ^1 }", "version 1; enum A { a = 0^; b = 1 }", "version 1; enum A { a = 0 ^= }", "version 1; enum A { a = 0 ^{ }",
		"version 1; enum A { a = 0,^", "version 1; enum A { a = 0, ^}", "version 1; enum A { a = 0, ^, b = 1 }", "version 1; enum A { a = 0, ^1 }",
		"version 1; enum A { a = 0 }^;", "version 1; enum A { a = 0 } ^}", "version 1; enum A { a = 0 } ^A", "version 1; enum A { a = 0 }^, B { a = 0 }",
		"version 1; struct ^", "version 1; struct ^a { }", "version 1; struct ^{ }", "version 1; struct ^1 { }", "version 1; struct ^struct A { }",
		"version 1; struct A^", "version 1; struct A^;", "version 1; struct A ^}", "version 1; struct A ^1 a: bool;", "version 1; struct A^( )", "version 1; struct A ^A { }",
		"version 1; struct A {^", "version 1; struct A { ^a: bool; }", "version 1; struct A { ^; }", "version 1; struct A { ^{ } }", "version 1; struct A { ^\"}\"", "version 1; struct A { ^struct B { } }",
		"version 1; struct A { 1^", "version 1; struct A { 1 ^}", "version 1; struct A { 1 ^1 a: bool; }", "version 1; struct A { 1^: bool; }", "version 1; struct A { 1 ^\"a\": bool; }",
		"version 1; struct A { 1 a^", "version 1; struct A { 1 a ^bool; }", "version 1; struct A { 1 a^; }", "version 1; struct A { 1 a ^= bool; }", "version 1; struct A { 1 a ^}",
		"version 1; struct A { 1 a:^", "version 1; struct A { 1 a:^; }", "version 1; struct A { 1 a: ^}", "version 1; struct A { 1 a: ^b; }", "version 1; struct A { 1 a: ^int; }", "version 1; struct A { 1 a: ^uint64; }", "version 1; struct A { 1 a: ^1; }", "version 1; struct A { 1 a: ^? ; }", "version 1; struct A { 1 a: ^\"bool\"; }",
		"version 1; struct A { 1 a: bool^", "version 1; struct A { 1 a: bool ^}", "version 1; struct A { 1 a: bool^, 2 b: bool; }", "version 1; struct A { 1 a: bool ^2 b: bool; }", "version 1; struct A { 1 a: bool^[1]; }", "version 1; struct A { 1 a: A ^A; }",
		"version 1; struct A { 1 a: bool?^", "version 1; struct A { 1 a: bool?^?; }", "version 1; struct A { 1 a: bool? ^}", "version 1; struct A { 1 a: bool;^; }", "version 1; struct A { 1 a: bool;^? }",
		"version 1; struct A { 1 a: text^; }", "version 1; struct A { 1 a: text^?; }", "version 1; struct A { 1 a: list ^of bool; }", "version 1; struct A { 1 a: text[2]^[2]; }", "version 1; struct A { 1 a: list[2]^; }", "version 1; struct A { 1 a: list[2] of bool? ^of; }",
		"version 1; struct A { 1 a: text[^-1]; }", "version 1; struct A { 1 a: list[^-1] of bool; }", "version 1; struct A { 1 a: list[1] of text[^-2]; }", "version 1; struct A { 1 a: text[^-9223372036854775808]; }",
		"version 1; struct A { }^;", "version 1; struct A { } ^}", "version 1; struct A { } ^1", "version 1; struct A { } ^version 1;",
		// Errors of the schema come last.
		"version 0; ^;", "version 1; enum A { a = 5 } struct A { 1 b: B; } ^a", "version 1; enum A { a = -1, ^}", "version 1000; struct A { 1 a: A; 0 b: text[^-1]; }",
	} {
		at := strings.Index(marked, "^")
		refused(t, marked[:at]+marked[at+1:], api.ErrFormat, at)
	}
}

// The grammar permits what these texts say, but schemas do not.
func TestErrorsOfSchemas(t *testing.T) {
	names := func(n int) string {
		all := []string{}
		for i := range n {
			all = append(all, "a"+strconv.Itoa(i)+"="+strconv.Itoa(i))
		}
		return strings.Join(all, ",")
	}
	for s, want := range map[string]api.Errno{
		"version 0;":                    api.ErrRange,
		"version -1;":                   api.ErrRange,
		"version 1000;":                 api.ErrRange,
		"version 9223372036854775807;":  api.ErrRange,
		"version -9223372036854775808;": api.ErrRange,

		"version 1;" + strings.Repeat("struct A{}", 17): api.ErrLong,
		"version 1;" + strings.Repeat("struct A{}", 16): api.ErrExists,
		"version 1;enum A{" + names(17) + "}":           api.ErrLong,
		"version 1;enum A{" + names(16) + "}":           api.OK,

		"version 1;enum A{a=0}enum A{a=0}":            api.ErrExists,
		"version 1;struct A{}struct A{}":              api.ErrExists,
		"version 1;struct A{}enum A{a=0}":             api.ErrExists,
		"version 1;enum A{a=0}struct A{}":             api.ErrExists,
		"version 1;enum A{a=0,a=1}":                   api.ErrExists,
		"version 1;enum A{a=-1}":                      api.ErrRange,
		"version 1;enum A{a=128}":                     api.ErrRange,
		"version 1;enum A{a=1}":                       api.ErrFormat,
		"version 1;enum A{a=0,b=0}":                   api.ErrFormat,
		"version 1;struct A{0 a:bool;}":               api.ErrRange,
		"version 1;struct A{-5 a:bool;}":              api.ErrRange,
		"version 1;struct A{128 a:bool;}":             api.ErrRange,
		"version 1;struct A{2 a:bool;1 b:A;}":         api.ErrFormat,
		"version 1;struct A{1 a:int8;2 a:A;}":         api.ErrExists,
		"version 1;struct A{1 a:text[0];}":            api.ErrType,
		"version 1;struct A{1 a:text[2001];}":         api.ErrType,
		"version 1;struct A{1 a:list[0]of A;}":        api.ErrType,
		"version 1;struct A{1 a:list[33]of A;}":       api.ErrType,
		"version 1;struct A{1 a:B;}":                  api.ErrType,
		"version 1;struct A{1 a:Bool;}":               api.ErrType,
		"version 1;struct A{1 a:list[1]of B;}":        api.ErrType,
		"version 1;struct A{1 a:A;}":                  api.ErrCycle,
		"version 1;struct A{1 a:list[1]of A;}":        api.ErrCycle,
		"version 1;struct A{1 a:B;}struct B{1 a:A?;}": api.ErrCycle,

		"version 1;struct A{1 a:" + strings.Repeat("list[1]of ", 5) + "bool;}":   api.OK,
		"version 1;struct A{1 a:" + strings.Repeat("list[1]of ", 6) + "bool;}":   api.ErrDepth,
		"version 1;struct A{1 a:" + strings.Repeat("list[1]of ", 7) + "bool;}":   api.ErrDepth,
		"version 1;struct A{1 a:" + strings.Repeat("list[1]of ", 390) + "bool;}": api.ErrDepth,
		"version 1;struct A{1 a:" + strings.Repeat("list[1]of ", 390) + "A;}":    api.ErrCycle,
		"version 1;struct A{1 a:" + strings.Repeat("list[1]of ", 390) + "B;}":    api.ErrType,
	} {
		if got, e, at := schematext.Parse(s); e != want || at != 0 {
			t.Errorf("Parse(%q) = %+v, %v, %d, want %v", s, got, e, at, want)
		}
		if want != api.OK {
			refused(t, s, want, 0)
		}
	}
}

// P8.2

func TestFormatExamples(t *testing.T) {
	formatted(t, example(), canonical)
	formatted(t, api.Schema{Version: 1}, "version 1;\n")
	formatted(t, api.Schema{Version: 999, Enums: []api.Enum{}, Structs: []api.Struct{}}, "version 999;\n")
	formatted(t, structs(structure("A")), "version 1;\nstruct A {\n}\n")
	formatted(t, enums(enum("A", "a")), "version 1;\nenum A { a = 0 }\n")
	formatted(t, api.Schema{
		Version: 20,
		Enums:   []api.Enum{enum("Z", "z", "y", "x"), {Name: "B", Names: []string{"enum", "A"}, Numbers: []int{0, 127}}},
		Structs: []api.Struct{
			structure("Y", optional(7, "version", list(32, list(1, structType("A")))), field(127, "of", list(2, enumType("Z")))),
			structure("A", optional(1, "a", text(2000)), field(2, "b", unsigned(8))),
		},
	}, `version 20;
enum Z { z = 0, y = 1, x = 2 }
enum B { enum = 0, A = 127 }
struct Y {
  7 version: list[32] of list[1] of A?;
  127 of: list[2] of Z;
}
struct A {
  1 a: text[2000]?;
  2 b: uint8;
}
`)
}

func TestFormatOfTypes(t *testing.T) {
	for s, x := range map[string]api.Type{
		"bool": boolean(), "int8": integer(8), "int16": integer(16), "int32": integer(32), "int64": integer(64), "uint8": unsigned(8), "uint16": unsigned(16), "uint32": unsigned(32),
		"text[1]": text(1), "text[2000]": text(2000), "M": enumType("M"), "S": structType("S"),
		"list[1] of bool": list(1, boolean()), "list[32] of M": list(32, enumType("M")), "list[9] of text[8]": list(9, text(8)),
		"list[1] of list[1] of list[1] of list[1] of list[1] of int8": lists(5, integer(8)),
	} {
		formatted(t, api.Schema{
			Version: 1,
			Enums:   []api.Enum{enum("M", "m")},
			Structs: []api.Struct{structure("S"), structure("A", field(1, "a", x), optional(2, "b", x))},
		}, "version 1;\nenum M { m = 0 }\nstruct S {\n}\nstruct A {\n  1 a: "+s+";\n  2 b: "+s+"?;\n}\n")
	}
}

// The text of a schema has no greatest length.
func TestFormatOfManyFields(t *testing.T) {
	s, want := structs(), "version 1;\n"
	for i := range 16 {
		x := structure("Abcdefghijklmn" + strconv.Itoa(10+i))
		want += "struct " + x.Name + " {\n"
		for k := range 16 {
			f := field(100+k, "abcdefghijklmn"+strconv.Itoa(10+k), list(32, text(2000)))
			x.Fields = append(x.Fields, f)
			want += "  " + strconv.Itoa(f.Number) + " " + f.Name + ": list[32] of text[2000];\n"
		}
		s.Structs = append(s.Structs, x)
		want += "}\n"
	}
	formatted(t, s, want)
	refused(t, want, api.ErrLong, 0)
}

// Only what Check rejects has no text.
func TestFormatOfSchemasThatAreNotValid(t *testing.T) {
	for _, change := range []func(s *api.Schema){
		func(s *api.Schema) { *s = api.Schema{} },
		func(s *api.Schema) { s.Version = 0 },
		func(s *api.Schema) { s.Version = -1 },
		func(s *api.Schema) { s.Version = 1000 },
		func(s *api.Schema) { s.Enums = nil },
		func(s *api.Schema) { s.Enums = append(s.Enums, s.Enums[0]) },
		func(s *api.Schema) { s.Enums = append(s.Enums, make([]api.Enum, 15)...) },
		func(s *api.Schema) { s.Enums[0].Name = "mode" },
		func(s *api.Schema) { s.Enums[0].Names = nil },
		func(s *api.Schema) { s.Enums[0].Numbers = nil },
		func(s *api.Schema) { s.Enums[0].Names, s.Enums[0].Numbers = nil, nil },
		func(s *api.Schema) { s.Enums[0].Names[1] = "" },
		func(s *api.Schema) { s.Enums[0].Numbers[0] = 1 },
		func(s *api.Schema) { s.Enums[0].Numbers[1] = 0 },
		func(s *api.Schema) { s.Enums[0].Numbers[1] = -1 },
		func(s *api.Schema) { s.Structs = append(s.Structs, structure("Mode")) },
		func(s *api.Schema) { s.Structs[0].Name = "" },
		func(s *api.Schema) { s.Structs[0].Fields[0].Number = 0 },
		func(s *api.Schema) { s.Structs[0].Fields[0].Number = 2 },
		func(s *api.Schema) { s.Structs[0].Fields[0].Name = "a b" },
		func(s *api.Schema) { s.Structs[0].Fields[0].Type.Size = 7 },
		func(s *api.Schema) { s.Structs[0].Fields[1].Type.Size = 0 },
		func(s *api.Schema) { s.Structs[0].Fields[1].Type.Size = 2001 },
		func(s *api.Schema) { s.Structs[0].Fields[2].Type.Elem = nil },
		func(s *api.Schema) { s.Structs[0].Fields[2].Type = lists(6, boolean()) },
		func(s *api.Schema) { s.Structs[0].Fields[3].Type.Kind = api.KStruct },
		func(s *api.Schema) { s.Structs[0].Fields[3].Type = structType("Pose") },
		func(s *api.Schema) { s.Structs[0].Fields[3].Type = api.Type{} },
	} {
		s := example()
		change(&s)
		formatted(t, s, "")
	}
}

// P8.3

func TestTypeExamples(t *testing.T) {
	for s, x := range map[string]api.Type{
		"list[4] of text[16]": list(4, text(16)),
		"bool":                boolean(),
		"int8":                integer(8),
		"int16":               integer(16),
		"int32":               integer(32),
		"int64":               integer(64),
		"uint8":               unsigned(8),
		"uint16":              unsigned(16),
		"uint32":              unsigned(32),
		"Pose":                structType("Pose"),
		"Mode":                enumType("Mode"),
		"A":                   structType("A"),
		"Z_9":                 enumType("Z_9"),
		"Abcdefghijklmnop":    structType("Abcdefghijklmnop"),

		"list[0] of list[33] of Mode": list(0, list(33, enumType("Mode"))),
		"text[9223372036854775807]":   text(most),

		"list[9223372036854775807] of bool": list(most, boolean()),
	} {
		written(t, x, s)
		x.Elem = append([]api.Type{}, x.Elem...)
		written(t, x, s)
	}
}

func TestSizesOfTypes(t *testing.T) {
	sizes := []int{least, least + 8, most, 1 << 32, 1<<32 + 8, 1<<16 + 8, 1<<8 + 8, 2000, 2001}
	for size := -70; size <= 140; size++ {
		sizes = append(sizes, size)
	}
	for _, size := range sizes {
		number := strconv.Itoa(size)
		when := func(can bool, s string) string {
			if can {
				return s
			}
			return ""
		}
		written(t, api.Type{Kind: api.KBool, Size: size}, when(size == 0, "bool"))
		written(t, integer(size), when(slices.Contains([]int{8, 16, 32, 64}, size), "int"+number))
		written(t, unsigned(size), when(slices.Contains([]int{8, 16, 32}, size), "uint"+number))
		written(t, text(size), when(size >= 0, "text["+number+"]"))
		written(t, list(size, boolean()), when(size >= 0, "list["+number+"] of bool"))
		written(t, list(3, text(size)), when(size >= 0, "list[3] of text["+number+"]"))
		written(t, list(size, list(size, unsigned(8))), when(size >= 0, "list["+number+"] of list["+number+"] of uint8"))
		written(t, api.Type{Kind: api.KStruct, Size: size, Name: "A"}, when(size == 0, "A"))
		written(t, api.Type{Kind: api.KEnum, Size: size, Name: "A"}, when(size == 0, "A"))
	}
}

func TestKindsOfTypes(t *testing.T) {
	for _, kind := range []int{least, -8, -1, 0, 8, 9, 10, 256, 257, 1 << 32, 1<<32 + 1, most} {
		for _, size := range []int{0, 1, 8, 16} {
			for _, name := range []string{"", "A"} {
				x := api.Type{Kind: kind, Size: size, Name: name}
				written(t, x, "")
				written(t, list(1, x), "")
				x.Elem = []api.Type{boolean()}
				written(t, x, "")
			}
		}
	}
}

func TestNamesOfTypes(t *testing.T) {
	for _, name := range []string{
		"", "a", "z", "pose", "_", "_A", "1", "1A", "-", "A-", "A b", " A", "A ", "A\n", "A#", "A.", "A\x00", "\xff", "A\xff", "\u00c4", "A\u00e4", "[", "@", "`", "bool", "int8", "{",
		"Abcdefghijklmnopq", "A" + strings.Repeat("a", 1<<16),
	} {
		written(t, structType(name), "")
		written(t, enumType(name), "")
		written(t, list(1, structType(name)), "")
		written(t, list(1, list(1, enumType(name))), "")
	}
	// Only structs and enumerations have names.
	for _, name := range []string{"A", "a", "bool", " ", "\x00"} {
		for _, x := range append(plain(), text(5), text(0), list(5, boolean())) {
			x.Name = name
			written(t, x, "")
			written(t, list(1, x), "")
		}
	}
	for i := range 256 {
		c := string([]byte{byte(i)})
		first, further := "", ""
		if strings.Contains("ABCDEFGHIJKLMNOPQRSTUVWXYZ", c) {
			first = c
		}
		if strings.Contains("ABCDEFGHIJKLMNOPQRSTUVWXYZabcdefghijklmnopqrstuvwxyz0123456789_", c) {
			further = "A" + c
		}
		written(t, structType(c), first)
		written(t, enumType(c), first)
		written(t, structType("A"+c), further)
		written(t, enumType("A"+c), further)
	}
}

func TestElementsOfTypes(t *testing.T) {
	for _, x := range append(plain(), text(5), text(0), structType("A"), enumType("A")) {
		for _, elem := range [][]api.Type{{boolean()}, {{}}, {boolean(), boolean()}, {x}} {
			x := x
			x.Elem = elem
			written(t, x, "")
			written(t, list(1, x), "")
		}
	}
	for _, elem := range [][]api.Type{nil, {}, {{}}, {boolean(), boolean()}, {boolean(), {}}, {integer(7)}, {list(1)}, {list(1, boolean(), boolean())}, {list(-1, boolean())}, make([]api.Type, 1000)} {
		written(t, list(1, elem...), "")
		written(t, list(2, list(1, elem...)), "")
	}
}

func TestNestedLists(t *testing.T) {
	for _, x := range append(plain(), text(5), structType("A"), enumType("A")) {
		for levels := range 20 {
			want := ""
			if levels <= 6 {
				want = strings.Repeat("list[1] of ", levels) + spelled(x)
			}
			written(t, lists(levels, x), want)
		}
	}
}

// P8.4

func TestParseTypeExamples(t *testing.T) {
	for s, want := range map[string]api.Type{
		"bool":                boolean(),
		"int8":                integer(8),
		"int16":               integer(16),
		"int32":               integer(32),
		"int64":               integer(64),
		"uint8":               unsigned(8),
		"uint16":              unsigned(16),
		"uint32":              unsigned(32),
		"Pose":                structType("Pose"),
		"Mode":                structType("Mode"),
		"Bool":                structType("Bool"),
		"Abcdefghijklmnop":    structType("Abcdefghijklmnop"),
		"text[0]":             text(0),
		"text[1]":             text(1),
		"text[2001]":          text(2001),
		"list[0] of bool":     list(0, boolean()),
		"list[33] of int8":    list(33, integer(8)),
		"list[4] of text[16]": list(4, text(16)),
		"list[4] of Mode":     list(4, structType("Mode")),

		" list\n[ 4 ]\tof # remark\ntext[16] # remark": list(4, text(16)),

		"text[9223372036854775807]": text(most),

		"list[9223372036854775807]of list[2]of A": list(most, list(2, structType("A"))),
	} {
		parsedType(t, s, want, api.OK, 0)
	}
}

func TestParseType(t *testing.T) {
	seen := map[api.Errno]int{}
	forTypes(func(s string) {
		want, e, at := parseType(s)
		parsedType(t, s, want, e, at)
		seen[e]++
	})
	for _, e := range []api.Errno{api.OK, api.ErrFormat, api.ErrDepth} {
		if seen[e] < 20 {
			t.Errorf("only %d texts with %v", seen[e], e)
		}
	}
}

// The offset is marked by an arrow in the text.
func TestTokensThatDoNotFitAType(t *testing.T) {
	for _, marked := range []string{
		"^", "  ^", "# remark\n^", "^1", "^;", "^?", "^[1]", "^of", "^\"bool\"", "^\"A\"",
		"^int", "^int7", "^uint64", "^uint", "^int128", "Int8 ^Int8", "^string", "^boolean", "^pose", "^a", "^z", "^version", "^struct A", "^-1",
		"bool ^bool", "bool^?", "bool^;", "bool^[1]", "int8 ^8", "A ^A", "A^[1]", "Pose ^of bool", "bool ^\"\"",
		"text^", "text ^16", "text^(16)", "text ^A", "text^;", "text ^of", "text^]",
		"text[^", "text[^]", "text[^a]", "text[^-1]", "text[^-9223372036854775808]", "text[^\"1\"]", "text[^[",
		"text[1^", "text[1 ^1]", "text[1^)", "text[1^[", "text[1^,",
		"text[1]^[1]", "text[1]^?", "text[1] ^of bool", "text[1] ^A",
		"list^", "list ^of bool", "list ^4 of bool", "list^(4) of bool", "list[^", "list[^]", "list[^-1] of bool", "list[^bool]", "list[4^", "list[4 ^of bool",
		"list[4]^", "list[4] ^bool", "list[4]^;", "list[4] ^Of bool", "list[4] ^\"of\" bool", "list[4]^[4]",
		"list[4] of^", "list[4] of ^of", "list[4] of ^1", "list[4] of^;", "list[4] of ^a", "list[4] of ^int7",
		"list[4] of bool ^bool", "list[4] of bool^?", "list[4] of list^", "list[4] of list[^-1] of bool", "list[4] of text[^-1]", "list[4] of list[4] of^", "list[4] of A ^of",
		// Too many lists are an error only of texts of the grammar.
		strings.Repeat("list[1] of ", 7) + "^", strings.Repeat("list[1] of ", 7) + "^a", strings.Repeat("list[1] of ", 7) + "bool ^bool", strings.Repeat("list[1] of ", 7) + "text[^-1]", strings.Repeat("list[1] of ", 300) + "^;",
	} {
		at := strings.Index(marked, "^")
		refusedType(t, marked[:at]+marked[at+1:], api.ErrFormat, at)
	}
}

func TestParseTypeOfNestedLists(t *testing.T) {
	for levels := range 20 {
		for _, x := range append(plain(), text(5), structType("A")) {
			s := strings.Repeat("list[1] of ", levels) + spelled(x)
			if levels <= 6 {
				parsedType(t, s, lists(levels, x), api.OK, 0)
			} else {
				refusedType(t, s, api.ErrDepth, 0)
				refusedType(t, " "+s, api.ErrDepth, 0)
			}
		}
	}
	refusedType(t, strings.Repeat("list[1]of ", 399)+"A", api.ErrDepth, 0)
	refusedType(t, strings.Repeat("list[1]of ", 400), api.ErrFormat, 4000)
	refusedType(t, strings.Repeat("list[1]of ", 400)+"A", api.ErrLong, 0)
}
