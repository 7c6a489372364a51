package schema_test

import (
	"fmt"
	"math/rand"
	"slices"
	"testing"

	"robotics/api"
	"robotics/schema"
)

// shown returns a text that is equal for equal definitions and fields.
func shown(x any) string {
	return fmt.Sprintf("%+v", x)
}

// P7.2

// search is what Struct, Enum or FieldOf returned.
type search[T any] struct {
	got T
	ok  bool
}

func searched[T any](got T, ok bool) search[T] {
	return search[T]{got, ok}
}

// found checks that a search has found this.
func (x search[T]) found(t *testing.T, want T) {
	t.Helper()
	if !x.ok || shown(x.got) != shown(want) {
		t.Errorf("found %+v, %v, want %+v", x.got, x.ok, want)
	}
}

// missed checks that a search has found nothing.
func (x search[T]) missed(t *testing.T) {
	t.Helper()
	var zero T
	if x.ok || shown(x.got) != shown(zero) {
		t.Errorf("found %+v, %v", x.got, x.ok)
	}
}

func hasNoStruct(t *testing.T, s api.Schema, names ...string) {
	t.Helper()
	for _, name := range names {
		searched(schema.Struct(s, name)).missed(t)
	}
}

func hasNoEnum(t *testing.T, s api.Schema, names ...string) {
	t.Helper()
	for _, name := range names {
		searched(schema.Enum(s, name)).missed(t)
	}
}

func hasNoField(t *testing.T, x api.Struct, numbers ...int) {
	t.Helper()
	for _, number := range numbers {
		searched(schema.FieldOf(x, number)).missed(t)
	}
}

func TestDefinitionsByName(t *testing.T) {
	s := example()
	searched(schema.Struct(s, "Tag")).found(t, s.Structs[0])
	searched(schema.Struct(s, "Pose")).found(t, s.Structs[1])
	hasNoStruct(t, s, "Mode", "", "tag", "Ta", "Tags", "Pose ", "x", "idle")
	searched(schema.Enum(s, "Mode")).found(t, s.Enums[0])
	hasNoEnum(t, s, "Tag", "Pose", "", "mode", "Mod", "Modes", "idle")
	hasNoStruct(t, api.Schema{}, "", "Tag")
	hasNoEnum(t, api.Schema{}, "", "Mode")
}

// strange returns a schema of which nearly everything is wrong.
func strange() api.Schema {
	return api.Schema{
		Version: -5,
		Enums: []api.Enum{
			{Name: "A", Names: []string{"a"}},
			{Name: "", Names: []string{"", "1"}, Numbers: []int{-1}},
			{Name: "A", Numbers: []int{0}},
			{Name: "b c", Names: []string{"a", "a"}, Numbers: []int{5, 5}},
		},
		Structs: []api.Struct{
			{Name: "A", Fields: []api.Field{field(7, "", list(0)), field(7, "a", boolean()), field(-1, "a", structType("A"))}},
			{Name: "b c", Fields: []api.Field{field(0, "\xff", list(-1, list(2), integer(3)))}},
			{Name: "A", Fields: []api.Field{field(1, "second", boolean())}},
			{Name: ""},
			{Name: "b c"},
		},
	}
}

// The first one of two definitions of one name counts, and nothing else need
// be as it should be.
func TestDefinitionsByNameInStrangeSchemas(t *testing.T) {
	s := strange()
	searched(schema.Struct(s, "A")).found(t, s.Structs[0])
	searched(schema.Struct(s, "b c")).found(t, s.Structs[1])
	searched(schema.Struct(s, "")).found(t, s.Structs[3])
	hasNoStruct(t, s, "B", "a", "b", "c", " ", "\xff")
	searched(schema.Enum(s, "A")).found(t, s.Enums[0])
	searched(schema.Enum(s, "")).found(t, s.Enums[1])
	searched(schema.Enum(s, "b c")).found(t, s.Enums[3])
	hasNoEnum(t, s, "B", "a", "b", "c", "1")
	many := structs(slices.Repeat([]api.Struct{structure("A", slices.Repeat([]api.Field{field(1, "a", boolean())}, 100)...)}, 1000)...)
	many.Structs = append(many.Structs, record("Last", text(5)))
	searched(schema.Struct(many, "Last")).found(t, record("Last", text(5)))
}

func TestRandomDefinitionsByName(t *testing.T) {
	forSchemas(func(s api.Schema) {
		for _, name := range pool() {
			if i := slices.IndexFunc(s.Structs, func(x api.Struct) bool { return x.Name == name }); i >= 0 {
				searched(schema.Struct(s, name)).found(t, s.Structs[i])
			} else {
				hasNoStruct(t, s, name)
			}
			if i := slices.IndexFunc(s.Enums, func(x api.Enum) bool { return x.Name == name }); i >= 0 {
				searched(schema.Enum(s, name)).found(t, s.Enums[i])
			} else {
				hasNoEnum(t, s, name)
			}
		}
	})
}

func TestFieldsByNumber(t *testing.T) {
	pose := example().Structs[1]
	pose.Fields[1].Optional = true
	searched(schema.FieldOf(pose, 1)).found(t, pose.Fields[0])
	searched(schema.FieldOf(pose, 3)).found(t, pose.Fields[1])
	hasNoField(t, pose, 0, 2, 4, -1, -3, least, most, 1<<32+1)
	hasNoField(t, api.Struct{}, 0, 1)
	hasNoField(t, structure("A"), 0, 1)
}

func TestFieldsByNumberInStrangeStructs(t *testing.T) {
	x := strange().Structs[0]
	searched(schema.FieldOf(x, 7)).found(t, x.Fields[0])
	searched(schema.FieldOf(x, -1)).found(t, x.Fields[2])
	hasNoField(t, x, 0, 1)
	y := strange().Structs[1]
	searched(schema.FieldOf(y, 0)).found(t, y.Fields[0])
	z := structure("A", field(least, "a", boolean()), field(5, "b", boolean()), field(most, "c", boolean()), field(5, "d", boolean()), field(1, "e", boolean()))
	searched(schema.FieldOf(z, least)).found(t, z.Fields[0])
	searched(schema.FieldOf(z, 5)).found(t, z.Fields[1])
	searched(schema.FieldOf(z, most)).found(t, z.Fields[2])
	searched(schema.FieldOf(z, 1)).found(t, z.Fields[4])
	hasNoField(t, z, 0, 2)
}

// someTypes returns types that differ from each other, many of them not valid.
func someTypes() []api.Type {
	all := []api.Type{
		{}, {Kind: -1}, {Kind: 8}, {Kind: most}, {Size: 1}, {Size: -1}, {Name: "A"}, {Name: "a"}, {Elem: []api.Type{{}}}, {Elem: []api.Type{{}, {}}},
		boolean(), integer(8), integer(64), integer(7), unsigned(8), text(8), text(0), structType("A"), structType("B"), structType("Aa"), structType(""), enumType("A"), enumType(""),
		{Kind: api.KBool, Size: 1}, {Kind: api.KBool, Name: "A"}, {Kind: api.KBool, Elem: []api.Type{boolean()}}, {Kind: api.KStruct, Name: "A", Size: 1}, {Kind: api.KList, Name: "A", Size: 1},
	}
	for _, t := range slices.Clone(all) {
		all = append(all, list(1, t), list(2, t), list(1, list(1, t)), list(1, t, boolean()), list(1, boolean(), t), list(1, t, t, t))
	}
	all = append(all, list(1), list(2), list(-1), lists(50, boolean()), lists(50, integer(8)), lists(51, boolean()))
	var different []api.Type
	for _, t := range all {
		if !slices.ContainsFunc(different, func(x api.Type) bool { return written(x) == written(t) }) {
			different = append(different, t)
		}
	}
	return different
}

func TestSame(t *testing.T) {
	all, again := someTypes(), someTypes()
	for i, a := range all {
		for k, b := range again {
			if got := schema.Same(a, b); got != (i == k) {
				t.Errorf("Same(%+v, %+v) = %v", a, b, got)
			}
		}
	}
	if !schema.Same(api.Type{Kind: api.KBool, Elem: []api.Type{}}, boolean()) || !schema.Same(boolean(), api.Type{Kind: api.KBool, Elem: []api.Type{}}) {
		t.Error("an empty list of elements is another one than nil")
	}
}

func TestSameOfRandomTypes(t *testing.T) {
	r := rand.New(rand.NewSource(2))
	for range 20000 {
		s := randomSchema(r)
		a := randomType(r, s)
		b, _ := schema.FieldOf(record("A", a), 1)
		if r.Intn(2) == 0 {
			damageType(r, &b.Type)
		}
		if got, want := schema.Same(a, b.Type), written(a) == written(b.Type); got != want {
			t.Errorf("Same(%+v, %+v) = %v", a, b.Type, got)
		}
	}
}

// P7.3

func TestExaminationExamples(t *testing.T) {
	const (
		aMode = "\x07\x04Mode\x02\x04idle\x00\x03run\x01"
		aTag  = "\x06\x03Tag\x01\x01\x04mode\x07\x00\x04Mode\x00\x00"
		aPose = "\x06\x04Pose\x02\x01\x01x\x02\x20\x00\x00\x00\x03\x04tags\x05\x04\x00\x01\x06\x00\x03Tag\x00\x00"
	)
	examined(t, example(), "Pose", 3, []string{"Mode", "Tag"}, aPose, aMode, aTag)
	examined(t, example(), "Tag", 1, []string{"Mode"}, aTag, aMode)
	nothing(t, example(), "Mode", "", "None", "pose", "Pos", "Poses", "idle")
	optional := changed(func(s *api.Schema) { s.Structs[0].Fields[0].Optional = true })
	examined(t, optional, "Tag", 1, []string{"Mode"}, "\x06\x03Tag\x01\x01\x04mode\x07\x00\x04Mode\x00\x01", aMode)
}

func TestExaminationOfKinds(t *testing.T) {
	s := structs(record("A", boolean(), integer(64), unsigned(16), text(2000), lists(2, text(127)), structType("B")), structure("B"))
	s.Structs[0].Fields[3].Number, s.Structs[0].Fields[4].Number, s.Structs[0].Fields[5].Number = 100, 126, 127
	s.Structs[0].Fields[2].Optional = true
	examined(t, s, "A", 3, []string{"B"}, "\x06\x01A\x06",
		"\x01\x01a\x01\x00\x00\x00\x00",
		"\x02\x01b\x02\x40\x00\x00\x00",
		"\x03\x01c\x03\x10\x00\x00\x01",
		"\x64\x01d\x04\xd0\x0f\x00\x00\x00",
		"\x7e\x01e\x05\x01\x00\x01\x05\x01\x00\x01\x04\x7f\x00\x00\x00",
		"\x7f\x01f\x06\x00\x01B\x00\x00",
		"\x06\x01B\x00")
	examined(t, s, "B", 1, nil, "\x06\x01B\x00")
}

func TestDepthsOfStructs(t *testing.T) {
	for want, x := range [][]api.Type{
		1: {boolean(), enumType("M"), text(1)},
		2: {list(1, enumType("M")), boolean()},
		3: {list(3, list(1, boolean())), list(1, boolean()), boolean()},
		4: {boolean(), list(1, list(2, structType("E")))},
		5: {structType("E"), structType("D"), list(1, boolean())},
		6: {lists(2, structType("D")), lists(4, boolean())},
	} {
		if want == 0 {
			continue
		}
		s := structs(record("D", lists(3, boolean())), record("A", x...), structure("E"))
		if want == 6 {
			s.Structs[0] = record("D", lists(2, boolean()))
		}
		s.Enums = []api.Enum{mode("M")}
		if got := schema.Depth(s, "A"); got != want {
			t.Errorf("Depth of A in %+v = %d, want %d", s, got, want)
		}
		if got := schema.Depth(s, "E"); got != 1 {
			t.Errorf("Depth of E in %+v = %d", s, got)
		}
		nothing(t, s, "M")
	}
	for _, ascending := range []bool{true, false} {
		s := chain(6, ascending, text(1))
		for i := range 6 {
			if got := schema.Depth(s, fmt.Sprintf("S%d", i+1)); got != 6-i {
				t.Errorf("Depth of S%d in a chain = %d", i+1, got)
			}
		}
	}
}

// Names that begin with other names are after them.
func TestOrderOfUses(t *testing.T) {
	s := structs()
	want := []string{"A", "A0", "A1", "A10", "AB", "A_", "A_a", "Aa", "Ab", "B", "Z", "Zz"}
	var types []api.Type
	for i, name := range want {
		if i%3 == 0 {
			s.Enums = append(s.Enums, mode(name))
			types = append(types, enumType(name))
		} else {
			s.Structs = append(s.Structs, structure(name))
			types = append(types, list(2, structType(name)))
		}
	}
	r := rand.New(rand.NewSource(3))
	for range 50 {
		r.Shuffle(len(types), func(i, k int) { types[i], types[k] = types[k], types[i] })
		x := s
		x.Structs = append(slices.Clone(s.Structs), record("Own", types...))
		shuffle(r, &x)
		if got := schema.Uses(x, "Own"); !slices.Equal(got, want) {
			t.Errorf("Uses = %q", got)
		}
		if got := schema.Uses(x, "A0"); len(got) != 0 {
			t.Errorf("Uses of A0 = %q", got)
		}
	}
}

// What is used in several ways, or by what is used, is named once.
func TestUses(t *testing.T) {
	s := structs(
		record("A", structType("C"), structType("B"), list(3, structType("C")), enumType("N"), lists(2, enumType("N"))),
		record("B", structType("C"), boolean()),
		record("C", structType("D"), enumType("M")),
		record("D", enumType("N"), list(1, enumType("M"))),
		record("E", structType("A")),
		record("F", boolean()),
	)
	s.Enums = []api.Enum{mode("O"), mode("N"), mode("M")}
	for name, want := range map[string][]string{
		"A": {"B", "C", "D", "M", "N"},
		"B": {"C", "D", "M", "N"},
		"C": {"D", "M", "N"},
		"D": {"M", "N"},
		"E": {"A", "B", "C", "D", "M", "N"},
		"F": nil,
		"M": nil, "O": nil, "": nil, "G": nil,
	} {
		if got := schema.Uses(s, name); !slices.Equal(got, want) {
			t.Errorf("Uses of %q = %q, want %q", name, got, want)
		}
	}
}

func TestExaminations(t *testing.T) {
	valid := 0
	forSchemas(func(s api.Schema) {
		if check(s) != api.OK {
			for _, x := range s.Structs {
				nothing(t, s, x.Name)
			}
			return
		}
		valid++
		for _, x := range s.Enums {
			nothing(t, s, x.Name)
		}
		deep, used := depths(s), relation(s)
		for _, x := range s.Structs {
			names := uses(used, x.Name)
			examined(t, s, x.Name, deep[x.Name], names, description(s, x.Name, names))
		}
	})
	if valid < 3000 {
		t.Errorf("only %d schemas are valid", valid)
	}
}

// The error may be somewhere else than in the struct.
func TestExaminationOfSchemasThatAreNotValid(t *testing.T) {
	for _, change := range []func(s *api.Schema){
		func(s *api.Schema) { s.Version = 0 },
		func(s *api.Schema) { s.Version = 1000 },
		func(s *api.Schema) { s.Enums[0].Numbers[1] = 0 },
		func(s *api.Schema) { s.Enums[0].Name = "mode" },
		func(s *api.Schema) { s.Structs = append(s.Structs, make([]api.Struct, 14)...) },
		func(s *api.Schema) { s.Structs = append(s.Structs, structure("")) },
		func(s *api.Schema) { s.Structs = append(s.Structs, structure("Tag")) },
		func(s *api.Schema) { s.Structs = append(s.Structs, structure("Mode")) },
		func(s *api.Schema) { s.Structs = append(s.Structs, record("Other", structType("Other"))) },
		func(s *api.Schema) { s.Structs = append(s.Structs, record("Other", lists(6, boolean()))) },
		func(s *api.Schema) { s.Structs = append(s.Structs, record("Other", integer(9))) },
		func(s *api.Schema) { s.Structs[0].Fields[0].Type = structType("Pose") },
	} {
		nothing(t, changed(change), "Pose", "Tag", "Mode", "Other", "")
	}
	nothing(t, strange(), "A", "b c", "")
	nothing(t, api.Schema{}, "A", "")
	nothing(t, api.Schema{Version: 1}, "A", "")
}
