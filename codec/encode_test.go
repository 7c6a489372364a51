package codec_test

import (
	"runtime"
	"slices"
	"strings"
	"testing"

	"robotics/api"
	"robotics/codec"
	"robotics/schema"
	"robotics/value"
)

// P11.1 and P11.5: what is checked of Encode is checked of Size, too.

func TestEncodeExamples(t *testing.T) {
	s := example()
	for _, x := range []struct{ value, want string }{
		{`{x = -2, on = true, tags = ["a", ""]}`, "01 01 03  02 01 01  03 04 02 01 61 00"},
		{`{x = 0, on = false, tags = []}`, ""},
		{`{x = 0, on = false, tags = [], m = idle}`, "04 01 00"},
		{`{x = 0, on = true, tags = [], m = run}`, "02 01 01  04 01 01"},
	} {
		encoded(t, s, "P", structOf(s, "P", x.value), bytes(x.want))
	}
	pose := schemaOf("struct Pose { 1 x: int32; 2 name: text[8]; }")
	encoded(t, pose, "Pose", structOf(pose, "Pose", `{x = -3, name = "a"}`), bytes("01 01 05 02 01 61"))
}

func TestEncodeOfEachKind(t *testing.T) {
	forSamples(func(s api.Schema, v api.Value, b string) { encoded(t, s, "T", v, b) })
}

// Each byte of a text stands for itself.
func TestEncodeOfEachByte(t *testing.T) {
	s := holding("text[3]")
	for b := range 256 {
		x := string([]byte{'a', byte(b), 0})
		v := value.With(value.Zero(s, structType("T")), 2, word(x))
		encoded(t, s, "T", v, fieldOf(2, x))
		decoded(t, s, "T", fieldOf(2, x), v)
	}
}

// Fields that are not optional are omitted exactly if they have their zero
// value; optional fields never are.
func TestOmittedFields(t *testing.T) {
	every := `1 b: bool?; 2 i: int8?; 3 j: int64?; 4 u: uint8?; 5 w: uint32?; 6 t: text[9]?; 7 l: list[2] of bool?; 8 m: Mode?; 9 p: Point?; 10 e: Empty?; 11 a: Arm?;`
	s := schemaOf(definitions + "struct May {" + every + "} struct Must {" + strings.ReplaceAll(every, "?", "") + "}")
	zero := `{b = false, i = 0, j = 0, u = 0, w = 0, t = "", l = [], m = idle, p = {x = 0}, e = {}, a = {p = {x = 0}, l = []}}`
	other := `{b = true, i = 1, j = -1, u = 1, w = 1, t = " ", l = [false], m = run, p = {x = 0, y = 0}, e = {}, a = {p = {x = 0}, l = [{x = 0}]}}`
	encoded(t, s, "Must", structOf(s, "Must", zero), "")
	encoded(t, s, "May", structOf(s, "May", zero), bytes("01 01 00 02 01 00 03 01 00 04 01 00 05 01 00 06 00 07 01 00 08 01 00 09 00 0a 00 0b 00"))
	encoded(t, s, "May", structOf(s, "May", "{}"), "")
	written := "01 01 01 02 01 02 03 01 01 04 01 01 05 01 01 06 01 20 07 03 01 01 00 08 01 01 09 03 04 01 00 %0b 04 03 02 01 00"
	encoded(t, s, "Must", structOf(s, "Must", other), bytes(strings.ReplaceAll(written, "%", "")))
	encoded(t, s, "May", structOf(s, "May", other), bytes(strings.ReplaceAll(written, "%", "0a 00 ")))
	for _, f := range structOf(s, "Must", other).F {
		v := value.With(structOf(s, "Must", zero), f.Number, f.Value)
		b, _ := codec.Encode(s, "Must", v)
		if got, e := codec.Fields(b); e != api.OK || len(got) != 1 && f.Number != 10 || len(got) == 1 && got[0] != f.Number {
			t.Errorf("%+v has the fields %v, %v", v, got, e)
		}
	}
}

func TestNumbersOfFields(t *testing.T) {
	s := schemaOf("struct T { 1 a: bool; 126 b: bool; 127 c: bool?; }")
	encoded(t, s, "T", structOf(s, "T", "{a = true, b = true, c = true}"), bytes("01 01 01 7e 01 01 7f 01 01"))
}

// strangeSchemas returns examples of which something was changed, by what it
// was. Most of them are not valid.
func strangeSchemas() map[string]api.Schema {
	all := map[string]api.Schema{"none": {}, "a version": {Version: 1}}
	for name, change := range map[string]func(s *api.Schema, x *api.Struct){
		"the version":         func(s *api.Schema, _ *api.Struct) { s.Version = 1000 },
		"many structs":        func(s *api.Schema, x *api.Struct) { s.Structs = append(s.Structs, make([]api.Struct, 17)...) },
		"many fields":         func(_ *api.Schema, x *api.Struct) { x.Fields = append(x.Fields, make([]api.Field, 17)...) },
		"no name":             func(_ *api.Schema, x *api.Struct) { x.Name = "" },
		"the name again":      func(s *api.Schema, x *api.Struct) { x.Name = s.Structs[1].Name },
		"an enumeration":      func(s *api.Schema, x *api.Struct) { x.Name = s.Enums[0].Name },
		"a negative number":   func(_ *api.Schema, x *api.Struct) { x.Fields[0].Number = -1 },
		"the number 0":        func(_ *api.Schema, x *api.Struct) { x.Fields[0].Number = 0 },
		"the number 128":      func(_ *api.Schema, x *api.Struct) { x.Fields[3].Number = 128 },
		"numbers that fall":   func(_ *api.Schema, x *api.Struct) { x.Fields[3].Number = 1 },
		"no kind":             func(_ *api.Schema, x *api.Struct) { x.Fields[0].Type = api.Type{} },
		"an unknown kind":     func(_ *api.Schema, x *api.Struct) { x.Fields[0].Type.Kind = 99 },
		"a size":              func(_ *api.Schema, x *api.Struct) { x.Fields[0].Type.Size = -5 },
		"the size 128":        func(_ *api.Schema, x *api.Struct) { x.Fields[0].Type.Size = 128 },
		"a list of nothing":   func(_ *api.Schema, x *api.Struct) { x.Fields[2].Type.Elem = nil },
		"a negative list":     func(_ *api.Schema, x *api.Struct) { x.Fields[2].Type.Size = -1 },
		"an unknown struct":   func(_ *api.Schema, x *api.Struct) { x.Fields[0].Type = structType("None") },
		"an unknown enum":     func(_ *api.Schema, x *api.Struct) { x.Fields[3].Type.Name = "None" },
		"a cycle":             func(_ *api.Schema, x *api.Struct) { x.Fields[0].Type = structType("P") },
		"an optional cycle":   func(_ *api.Schema, x *api.Struct) { x.Fields[3].Type = structType("P") },
		"a struct too deep":   func(_ *api.Schema, x *api.Struct) { x.Fields[0].Type = structType("S1") },
		"a list too deep":     func(_ *api.Schema, x *api.Struct) { x.Fields[0].Type = nestedType(1000, x.Fields[1].Type) },
		"a deep enough list":  func(_ *api.Schema, x *api.Struct) { x.Fields[0].Type = nestedType(5, x.Fields[1].Type) },
		"an enum without 0":   func(s *api.Schema, _ *api.Struct) { s.Enums[0].Numbers = []int{1, 2} },
		"enum without names":  func(s *api.Schema, _ *api.Struct) { s.Enums[0] = api.Enum{Name: "Mode"} },
		"an enum with more":   func(s *api.Schema, _ *api.Struct) { s.Enums[0].Numbers = []int{0, 1, 2, 3} },
		"negative enum value": func(s *api.Schema, _ *api.Struct) { s.Enums[0].Numbers = []int{least, -1} },
	} {
		s := example()
		for i := range s.Structs {
			if s.Structs[i].Name == "P" {
				change(&s, &s.Structs[i])
			}
		}
		all[name] = s
	}
	return all
}

// nestedType returns a type within so many lists.
func nestedType(levels int, t api.Type) api.Type {
	for range levels {
		t = api.Type{Kind: api.KList, Size: 2, Elem: []api.Type{t}}
	}
	return t
}

func TestEncodeWithSchemasThatAreNotValid(t *testing.T) {
	v := structOf(example(), "P", `{x = -2, on = true, tags = ["a", ""]}`)
	errors := map[api.Errno]bool{}
	for _, s := range strangeSchemas() {
		e := schema.Check(s)
		errors[e] = true
		if e == api.OK {
			continue
		}
		for _, name := range []string{"P", "Point", "None", "", "Mode"} {
			notEncoded(t, s, name, v, e)
			notEncoded(t, s, name, api.Value{}, e)
		}
	}
	if len(errors) < 8 {
		t.Errorf("only the errors %v", errors)
	}
}

func TestEncodeOfUnknownStructs(t *testing.T) {
	s := example()
	v := structOf(s, "P", "{x = 0, on = false, tags = []}")
	for _, name := range unknownNames() {
		notEncoded(t, s, name, v, api.ErrNone)
		notEncoded(t, s, name, api.Value{}, api.ErrNone)
		notEncoded(t, api.Schema{Version: 1}, name, v, api.ErrNone)
	}
	notEncoded(t, api.Schema{Version: 1}, "P", v, api.ErrNone)
	encoded(t, s, "Empty", record(), "")
}

// unknownNames returns names that the example has not, or for an enumeration.
func unknownNames() []string {
	return []string{"", "Q", "p", "P ", "PP", "Mode", "Far", "x", "bool", "\x00", strings.Repeat("P", 1<<16)}
}

func TestEncodeOfValuesThatAreNotAccepted(t *testing.T) {
	s := example()
	p := structOf(s, "P", `{x = -2, on = true, tags = ["a", ""]}`)
	for _, x := range []struct {
		v api.Value
		e api.Errno
	}{
		{api.Value{}, api.ErrType},
		{number(1), api.ErrType},
		{items(p), api.ErrType},
		{record(), api.ErrType},
		{value.Without(p, 1), api.ErrType},
		{value.With(p, 5, number(1)), api.ErrType},
		{value.With(p, 1, word("1")), api.ErrType},
		{value.With(p, 4, number(0)), api.ErrType},
		{record(p.F[1], p.F[0], p.F[2]), api.ErrType},
		{record(p.F[0], p.F[0], p.F[1], p.F[2]), api.ErrType},
		{value.With(p, 3, items(number(1))), api.ErrType},
		{value.With(p, 1, number(1<<31)), api.ErrRange},
		{value.With(p, 1, number(-1<<31-1)), api.ErrRange},
		{value.With(p, 1, number(least)), api.ErrRange},
		{value.With(p, 2, api.Value{Kind: api.KBool, N: 2}), api.ErrRange},
		{value.With(p, 4, api.Value{Kind: api.KEnum, N: 2}), api.ErrRange},
		{value.With(p, 3, items(word("a"), word("aaaaaaaaaa"))), api.ErrLong},
		{value.With(p, 3, items(word(""), word(""), word(""), word(""), word(""))), api.ErrLong},
		{value.With(p, 3, nested(6, word(""))), api.ErrDepth},
		{nested(7, p), api.ErrDepth},
	} {
		if e := value.Check(s, structType("P"), x.v); e != x.e {
			t.Fatalf("Check of %+v: %v", x.v, e)
		}
		notEncoded(t, s, "P", x.v, x.e)
	}
	notEncoded(t, s, "Point", p, api.ErrType)
	notEncoded(t, s, "Empty", p, api.ErrType)
}

// nested returns a value within so many lists.
func nested(levels int, v api.Value) api.Value {
	for range levels {
		v = items(v)
	}
	return v
}

// letters returns a text of so many bytes.
func letters(count int) api.Value { return word(strings.Repeat("a", count)) }

// longValues returns values of the struct Long, each made of a text whose last
// bytes make the encoding more or less than the longest one.
func longValues() map[string]func(letters api.Value) api.Value {
	s := example()
	zero := value.Zero(s, structType("Long"))
	boolean := api.Value{Kind: api.KBool, N: 1}
	inner := func(of api.Value) api.Value { return record(entry(1, of)) }
	return map[string]func(of api.Value) api.Value{
		"a text":          func(of api.Value) api.Value { return value.With(zero, 1, of) },
		"not at the end":  func(of api.Value) api.Value { return value.With(value.With(zero, 1, of), 2, boolean) },
		"before a list":   func(of api.Value) api.Value { return value.With(value.With(zero, 1, of), 3, items(word(""))) },
		"the last field":  func(of api.Value) api.Value { return value.With(value.With(zero, 1, of), 126, boolean) },
		"in a list":       func(of api.Value) api.Value { return value.With(zero, 3, items(of)) },
		"at a list's end": func(of api.Value) api.Value { return value.With(zero, 3, items(letters(50), letters(700), of)) },
		"in a list's mid": func(of api.Value) api.Value {
			return value.With(zero, 3, items(letters(900), of, letters(1), word("")))
		},
		"in a struct":      func(of api.Value) api.Value { return value.With(zero, 16, inner(of)) },
		"in a struct, too": func(of api.Value) api.Value { return value.With(value.With(zero, 16, inner(of)), 126, boolean) },
		"in all": func(of api.Value) api.Value {
			return value.With(value.With(value.With(zero, 1, letters(1000)), 3, items(letters(80))), 16, value.With(inner(of), 127, items(word("b"))))
		},
	}
}

// An encoding of 2000 bytes is one, a longer one is none, wherever it has its
// last bytes.
func TestEncodeOfLongValues(t *testing.T) {
	s := example()
	for name, made := range longValues() {
		lengths := map[int]bool{}
		for count := range 2001 {
			v := made(letters(count))
			want := exact(s).content(structType("Long"), v)
			if len(want) < 1990 || len(want) > 2010 {
				continue
			}
			lengths[len(want)] = true
			if len(want) > 2000 {
				notEncoded(t, s, "Long", v, api.ErrLong)
				continue
			}
			encoded(t, s, "Long", v, want)
			decoded(t, s, "Long", want, v)
		}
		if !lengths[2000] || !lengths[2001] {
			t.Errorf("%s: only the lengths %v", name, lengths)
		}
	}
}

// repeated returns a list of a value, so many times.
func repeated(count int, v api.Value) api.Value {
	return items(slices.Repeat([]api.Value{v}, count)...)
}

// Also a list of short elements may be too long.
func TestEncodeOfLongLists(t *testing.T) {
	s := example()
	zero := value.Zero(s, structType("Long"))
	for _, x := range []struct { // rows of 32 elements, but for the last one
		rows, last int
		e          api.Errno
	}{{1, 32, api.OK}, {58, 32, api.OK}, {59, 16, api.OK}, {59, 17, api.ErrLong}, {60, 1, api.ErrLong}, {64, 32, api.ErrLong}} {
		rows := append(repeated(x.rows-1, repeated(32, record())).L, repeated(x.last, record()))
		tables := items()
		for table := range slices.Chunk(rows, 32) {
			tables.L = append(tables.L, items(table...))
		}
		v := value.With(zero, 5, tables)
		want, e := encode(s, "Long", v)
		if e != x.e {
			t.Fatalf("%d rows and %d: %v", x.rows, x.last, e)
		}
		if e != api.OK {
			notEncoded(t, s, "Long", v, e)
			continue
		}
		encoded(t, s, "Long", v, want)
		decoded(t, s, "Long", want, v)
	}
}

// The encoding of a large value is not written to its end. All of these share
// their elements, so that they need little memory.
func TestEncodeOfLargeValues(t *testing.T) {
	s := holding("list[32] of list[32] of list[32] of text[2000]")
	x := letters(2000)
	for range 3 {
		x = repeated(32, x)
	}
	x = repeated(3, x)
	v := value.Zero(s, structType("T"))
	v.F[1].Value = x
	var before, after runtime.MemStats
	runtime.ReadMemStats(&before)
	notEncoded(t, s, "T", v, api.ErrLong)
	runtime.ReadMemStats(&after)
	if used := after.TotalAlloc - before.TotalAlloc; used > 50<<20 {
		t.Errorf("%d bytes of memory are used", used)
	}
}

// Of several errors, the first one in the chapter's order is returned.
func TestOrderOfErrorsOfEncode(t *testing.T) {
	s := example()
	invalid := example()
	invalid.Version = 0
	long := value.With(value.Zero(s, structType("Long")), 1, letters(2000))
	wrong := value.With(long, 3, items(number(1)))
	for _, x := range []struct {
		s    api.Schema
		name string
		v    api.Value
		e    api.Errno
	}{
		{invalid, "None", wrong, api.ErrRange},
		{invalid, "Long", wrong, api.ErrRange},
		{invalid, "Long", long, api.ErrRange},
		{s, "None", wrong, api.ErrNone},
		{s, "None", long, api.ErrNone},
		{s, "Long", wrong, api.ErrType},
		{s, "Long", value.With(long, 2, api.Value{Kind: api.KBool, N: -1}), api.ErrRange},
		{s, "Long", value.With(long, 5, nested(6, wrong)), api.ErrDepth},
		{s, "Long", long, api.ErrLong},
	} {
		notEncoded(t, x.s, x.name, x.v, x.e)
	}
}

func TestEncode(t *testing.T) {
	counts, tooLong := map[api.Errno]int{}, 0
	forValues(func(s api.Schema, name string, v api.Value) {
		want, e := encode(s, name, v)
		counts[e]++
		if e == api.ErrLong && value.Check(s, structType(name), v) == api.OK {
			tooLong++
		}
		if e != api.OK {
			notEncoded(t, s, name, v, e)
			return
		}
		encoded(t, s, name, v, want)
	})
	for _, e := range []api.Errno{api.OK, api.ErrType, api.ErrRange, api.ErrLong} {
		if counts[e] < 20 {
			t.Errorf("the error %v only %d times: %v", e, counts[e], counts)
		}
	}
	if tooLong < 20 {
		t.Errorf("only %d encodings are too long", tooLong)
	}
}
