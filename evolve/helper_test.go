package evolve_test

import (
	"fmt"
	"strings"
	"testing"

	"robotics/api"
	"robotics/evolve"
	"robotics/schema"
	"robotics/schematext"
	"robotics/value"
	"robotics/valuetext"
)

const (
	least = -1 << 63
	most  = 1<<63 - 1
)

// Schemas and values, which are written as texts where they have one.

// schemaOf returns the schema of the version 1 with these definitions.
func schemaOf(text string) api.Schema {
	s, e, at := schematext.Parse("version 1;" + text)
	if e != api.OK {
		panic(text + ": " + e.Error() + " before " + text[max(0, at-len("version 1;")):])
	}
	return s
}

// typeOf returns the type with this text, where a name is that of a struct.
func typeOf(text string) api.Type {
	t, e, _ := schematext.ParseType(text)
	if e != api.OK {
		panic(text + ": " + e.Error())
	}
	return t
}

// structOf returns the value of a struct with this text.
func structOf(s api.Schema, name, text string) api.Value {
	v, e, _ := valuetext.Parse(s, structType(name), text)
	if e != api.OK {
		panic(text + ": " + e.Error())
	}
	return v
}

func structType(name string) api.Type { return api.Type{Kind: api.KStruct, Name: name} }

func enumType(name string) api.Type { return api.Type{Kind: api.KEnum, Name: name} }

func listType(size int, elem ...api.Type) api.Type {
	return api.Type{Kind: api.KList, Size: size, Elem: elem}
}

func number(n int64) api.Value { return api.Value{Kind: api.KInt, N: n} }

func word(s string) api.Value { return api.Value{Kind: api.KText, S: s} }

func items(all ...api.Value) api.Value { return api.Value{Kind: api.KList, L: all} }

func record(all ...api.Entry) api.Value { return api.Value{Kind: api.KStruct, F: all} }

func entry(number int, v api.Value) api.Entry { return api.Entry{Number: number, Value: v} }

// nested returns a value within so many lists.
func nested(levels int, v api.Value) api.Value {
	for range levels {
		v = items(v)
	}
	return v
}

// nestedType returns a type within so many lists of this size.
func nestedType(levels, size int, t api.Type) api.Type {
	for range levels {
		t = listType(size, t)
	}
	return t
}

// cloned returns a schema in new memory.
func cloned(s api.Schema) api.Schema {
	c := api.Schema{Version: s.Version}
	for _, x := range s.Enums {
		c.Enums = append(c.Enums, api.Enum{Name: x.Name, Names: append([]string(nil), x.Names...), Numbers: append([]int(nil), x.Numbers...)})
	}
	for _, x := range s.Structs {
		y := api.Struct{Name: x.Name}
		for _, f := range x.Fields {
			f.Type = clonedType(f.Type)
			y.Fields = append(y.Fields, f)
		}
		c.Structs = append(c.Structs, y)
	}
	return c
}

func clonedType(t api.Type) api.Type {
	elem := t.Elem
	t.Elem = nil
	for _, x := range elem {
		t.Elem = append(t.Elem, clonedType(x))
	}
	return t
}

// sample is a valid schema with a struct Top that uses all others.
const sample = `
	enum Mode { idle = 0, run = 1, stop = 5 }
	enum Side { left = 0, right = 1 }
	struct Point { 2 x: int8; 4 y: int16?; }
	struct Arm { 1 at: Point; 3 path: list[3] of Point; 7 side: Side?; }
	struct Top { 1 n: int32; 2 on: bool?; 3 arm: Arm; 5 arms: list[2] of list[2] of Arm?; 9 mode: Mode; 12 tag: text[9]?; }
`

// strangeSchemas returns samples of which something was changed, by what it
// was. Most of them are not valid.
func strangeSchemas() map[string]api.Schema {
	all := map[string]api.Schema{
		"none":        {},
		"a version":   {Version: 1},
		"empty items": {Version: least, Structs: make([]api.Struct, 1<<10), Enums: make([]api.Enum, 1<<10)},
	}
	for name, change := range map[string]func(s *api.Schema, x *api.Struct){
		"the version":         func(s *api.Schema, _ *api.Struct) { s.Version = 1000 },
		"no version":          func(s *api.Schema, _ *api.Struct) { s.Version = 0 },
		"many structs":        func(s *api.Schema, _ *api.Struct) { s.Structs = append(s.Structs, make([]api.Struct, 17)...) },
		"many fields":         func(_ *api.Schema, x *api.Struct) { x.Fields = append(x.Fields, make([]api.Field, 17)...) },
		"no name":             func(_ *api.Schema, x *api.Struct) { x.Name = "" },
		"the name again":      func(s *api.Schema, x *api.Struct) { x.Name = s.Structs[0].Name },
		"an enumeration":      func(s *api.Schema, x *api.Struct) { x.Name = s.Enums[0].Name },
		"a negative number":   func(_ *api.Schema, x *api.Struct) { x.Fields[0].Number = -1 },
		"the number 0":        func(_ *api.Schema, x *api.Struct) { x.Fields[0].Number = 0 },
		"the number 128":      func(_ *api.Schema, x *api.Struct) { x.Fields[5].Number = 128 },
		"numbers that fall":   func(_ *api.Schema, x *api.Struct) { x.Fields[5].Number = 1 },
		"a field again":       func(_ *api.Schema, x *api.Struct) { x.Fields[1] = x.Fields[0] },
		"a name of fields":    func(_ *api.Schema, x *api.Struct) { x.Fields[1].Name = x.Fields[0].Name },
		"no kind":             func(_ *api.Schema, x *api.Struct) { x.Fields[0].Type = api.Type{} },
		"an unknown kind":     func(_ *api.Schema, x *api.Struct) { x.Fields[0].Type.Kind = 99 },
		"a size":              func(_ *api.Schema, x *api.Struct) { x.Fields[0].Type.Size = -5 },
		"a list of nothing":   func(_ *api.Schema, x *api.Struct) { x.Fields[3].Type.Elem = nil },
		"a list of two":       func(_ *api.Schema, x *api.Struct) { x.Fields[3].Type.Elem = make([]api.Type, 2) },
		"a negative list":     func(_ *api.Schema, x *api.Struct) { x.Fields[3].Type.Size = -1 },
		"an unknown struct":   func(_ *api.Schema, x *api.Struct) { x.Fields[2].Type = structType("None") },
		"an unknown enum":     func(_ *api.Schema, x *api.Struct) { x.Fields[4].Type.Name = "None" },
		"a cycle":             func(_ *api.Schema, x *api.Struct) { x.Fields[1].Type = structType("Top") },
		"a longer cycle":      func(s *api.Schema, _ *api.Struct) { s.Structs[0].Fields[1].Type = structType("Top") },
		"a list too deep":     func(_ *api.Schema, x *api.Struct) { x.Fields[0].Type = nestedType(1000, 2, x.Fields[1].Type) },
		"a deep enough list":  func(_ *api.Schema, x *api.Struct) { x.Fields[0].Type = nestedType(5, 2, x.Fields[1].Type) },
		"an enum without 0":   func(s *api.Schema, _ *api.Struct) { s.Enums[0].Numbers[0] = 1 },
		"enum without names":  func(s *api.Schema, _ *api.Struct) { s.Enums[0] = api.Enum{Name: "Mode"} },
		"an enum with more":   func(s *api.Schema, _ *api.Struct) { s.Enums[0].Numbers = []int{0, 1, 2, 3} },
		"an enum with less":   func(s *api.Schema, _ *api.Struct) { s.Enums[0].Numbers = []int{0} },
		"negative enum value": func(s *api.Schema, _ *api.Struct) { s.Enums[0].Numbers = []int{least, -1, most} },
	} {
		s := schemaOf(sample)
		change(&s, &s.Structs[2])
		all[name] = s
	}
	return all
}

// invalidSchemas returns those of the strange schemas that are not valid.
func invalidSchemas() map[string]api.Schema {
	all := strangeSchemas()
	for name, s := range all {
		if schema.Check(s) == api.OK {
			delete(all, name)
		}
	}
	return all
}

// strangeNames returns names that sample has for nothing.
func strangeNames() []string {
	return []string{"", "None", "top", "Top ", "To", "Topp", "TOP", "Top\x00", "\xff", "1", "list", strings.Repeat("T", 1<<16)}
}

// Checks of results.

// written returns a text of issues, such as "Top 1 3, Top 2 1".
func written(issues []evolve.Issue) string {
	all := []string{}
	for _, x := range issues {
		all = append(all, fmt.Sprintf("%s %d %d", x.Type, x.Kind, x.Number))
	}
	return strings.Join(all, ", ")
}

// has reports whether a schema is valid and has a struct with this name.
func has(s api.Schema, name string) bool {
	_, ok := schema.Struct(s, name)
	return ok && schema.Check(s) == api.OK
}

// issued checks the text of what Issues returns, and what follows for
// Compatible.
func issued(t *testing.T, old, new api.Schema, name, want string) {
	t.Helper()
	if got := written(evolve.Issues(old, new, name)); got != want {
		t.Errorf("Issues of %q: %s, want %s; from\n%s to\n%s", name, got, want, show(old), show(new))
	}
	matches := want == "" && has(old, name) && has(new, name)
	if got := evolve.Compatible(old, new, name); got != matches {
		t.Errorf("Compatible(%q) = %v; from\n%s to\n%s", name, got, show(old), show(new))
	}
}

// show returns a text of any schema.
func show(s api.Schema) string {
	if text := schematext.Format(s); text != "" {
		return text
	}
	return fmt.Sprintf("%.2000s", fmt.Sprintf("%+v", s))
}

// projected checks that Project returns a value.
func projected(t *testing.T, s api.Schema, name string, v, want api.Value) {
	t.Helper()
	if got := evolve.Project(s, name, v); !value.Equal(got, want) {
		t.Errorf("Project(%q, %+v) = %+v, want %+v; by %s", name, v, got, want, show(s))
	}
}

// converted checks that Convert returns a value.
func converted(t *testing.T, from, to api.Schema, name string, v, want api.Value) {
	t.Helper()
	if got, e := evolve.Convert(from, to, name, v); !value.Equal(got, want) || e != api.OK {
		t.Errorf("Convert(%q, %+v) = %+v, %v, want %+v; from\n%s to\n%s", name, v, got, e, want, show(from), show(to))
	}
}

// notConverted checks that Convert returns an error and nothing else.
func notConverted(t *testing.T, from, to api.Schema, name string, v api.Value, want api.Errno) {
	t.Helper()
	if got, e := evolve.Convert(from, to, name, v); !value.Equal(got, api.Value{}) || e != want {
		t.Errorf("Convert(%q, %.500s) = %+v, %v, want %v; from\n%s to\n%s", name, fmt.Sprint(v), got, e, want, show(from), show(to))
	}
}

// merged checks that Merge returns a valid schema.
func merged(t *testing.T, a, b, want api.Schema) {
	t.Helper()
	if got, e := evolve.Merge(a, b); e != api.OK || schematext.Format(got) != schematext.Format(want) {
		t.Errorf("Merge = %v and\n%s want\n%s of\n%s and\n%s", e, show(got), show(want), show(a), show(b))
	}
}

// notMerged checks that Merge returns an error and nothing else.
func notMerged(t *testing.T, a, b api.Schema, want api.Errno) {
	t.Helper()
	if got, e := evolve.Merge(a, b); e != want || got.Version != 0 || len(got.Enums) > 0 || len(got.Structs) > 0 {
		t.Errorf("Merge = %v and\n%s want %v; of\n%s and\n%s", e, show(got), want, show(a), show(b))
	}
}
