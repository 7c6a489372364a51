package schema_test

import (
	"fmt"
	"math/rand"
	"slices"
	"strings"
	"testing"

	"robotics/api"
	"robotics/checksum"
	"robotics/schema"
)

// examination is what Depth, Uses and Digest return.
type examination struct {
	depth  int
	uses   string
	digest uint64
}

func examine(s api.Schema, name string) examination {
	return examination{schema.Depth(s, name), strings.Join(schema.Uses(s, name), " "), schema.Digest(s, name)}
}

// sameExaminations checks that two schemas are valid, and that the structs of
// the first one are the same in both.
func sameExaminations(t *testing.T, a, b api.Schema) {
	t.Helper()
	checked(t, a, api.OK)
	checked(t, b, api.OK)
	for _, x := range a.Structs {
		if one, other := examine(a, x.Name), examine(b, x.Name); one != other {
			t.Errorf("%q is %v in %+v, but %v in %+v", x.Name, one, a, other, b)
		}
	}
}

// P7.4

// forOrders calls check with a list in all orders.
func forOrders[T any](start, left []T, check func(l []T)) {
	if len(left) == 0 {
		check(start)
		return
	}
	for i, x := range left {
		forOrders(append(slices.Clip(start), x), slices.Delete(slices.Clone(left), i, i+1), check)
	}
}

func TestAllOrders(t *testing.T) {
	s := structs(
		record("A", structType("C"), structType("B"), enumType("N")),
		record("B", list(1, structType("C")), lists(2, enumType("M"))),
		record("C", enumType("M"), structType("D")),
		structure("D"),
	)
	s.Enums = []api.Enum{mode("M"), mode("N"), mode("O")}
	forOrders(nil, s.Structs, func(all []api.Struct) {
		forOrders(nil, s.Enums, func(modes []api.Enum) {
			sameExaminations(t, s, api.Schema{Version: 1, Enums: modes, Structs: all})
		})
	})
}

func TestRandomOrders(t *testing.T) {
	r := rand.New(rand.NewSource(4))
	for range 500 {
		s := randomSchema(r)
		if check(s) != api.OK {
			continue
		}
		x := s
		x.Enums, x.Structs = slices.Clone(s.Enums), slices.Clone(s.Structs)
		for range 5 {
			shuffle(r, &x)
			sameExaminations(t, s, x)
		}
	}
}

// What the structs of the example do not use may be there or not, and be
// whatever it is. So may the version.
func TestDefinitionsThatAreNotUsed(t *testing.T) {
	s := example()
	other := api.Enum{Name: "Other", Names: []string{"idle", "run"}, Numbers: []int{0, 100}}
	for _, change := range []func(x *api.Schema){
		func(x *api.Schema) { x.Version = 999 },
		func(x *api.Schema) { x.Structs = append(x.Structs, structure("Other")) },
		func(x *api.Schema) { x.Structs = append(x.Structs, structure("A"), structure("Z")) },
		func(x *api.Schema) {
			x.Structs = slices.Insert(x.Structs, 0, record("A", structType("Z")), structure("Z"))
		},
		func(x *api.Schema) { x.Structs = append(x.Structs, record("Other", lists(5, text(2000)))) },
		func(x *api.Schema) {
			x.Structs = append(x.Structs, record("Other", structType("Pose"), enumType("Mode")))
		},
		func(x *api.Schema) { x.Enums = append(x.Enums, mode("Other")) },
		func(x *api.Schema) { x.Enums = append(x.Enums, mode("A"), other) },
		func(x *api.Schema) { x.Enums = slices.Insert(x.Enums, 0, other) },
		func(x *api.Schema) {
			x.Enums = append(x.Enums, other)
			x.Structs = append(x.Structs, record("A", enumType("Other"), structType("Pose")))
		},
	} {
		sameExaminations(t, s, changed(change))
	}
	// Tag does not use Pose.
	without := changed(func(x *api.Schema) { x.Structs = x.Structs[:1] })
	sameExaminations(t, without, s)
	sameExaminations(t, without, changed(func(x *api.Schema) { x.Structs[1].Fields[0].Name = "z" }))
}

func TestRandomDefinitionsThatAreNotUsed(t *testing.T) {
	r := rand.New(rand.NewSource(5))
	for range 1000 {
		s := randomSchema(r)
		if check(s) != api.OK {
			continue
		}
		used := relation(s)
		for _, x := range s.Structs {
			needs := func(name string) bool { return name == x.Name || used[[2]string{x.Name, name}] }
			only := api.Schema{Version: 1 + r.Intn(999)}
			only.Enums = slices.DeleteFunc(slices.Clone(s.Enums), func(y api.Enum) bool { return !needs(y.Name) })
			only.Structs = slices.DeleteFunc(slices.Clone(s.Structs), func(y api.Struct) bool { return !needs(y.Name) })
			sameExaminations(t, only, s)
		}
	}
}

// P7.5

// distinct checks that the digests of different structs, which are given by
// their descriptions, differ.
type distinct map[uint64]string

func (d distinct) add(t *testing.T, digest uint64, description string) {
	t.Helper()
	other, ok := d[digest]
	if ok && other != description {
		t.Errorf("%q and %q have the digest %016x", description, other, digest)
	}
	d[digest] = description
}

func TestRandomDigests(t *testing.T) {
	d := distinct{}
	forSchemas(func(s api.Schema) {
		if check(s) != api.OK {
			return
		}
		used := relation(s)
		for _, x := range s.Structs {
			d.add(t, schema.Digest(s, x.Name), description(s, x.Name, uses(used, x.Name)))
		}
	})
	if len(d) < 3000 {
		t.Errorf("only %d different structs", len(d))
	}
}

// Each change of what Pose is or uses changes its digest, to a different one.
func TestDigestsOfChangedSchemas(t *testing.T) {
	seen := map[uint64]int{}
	for i, change := range []func(s *api.Schema){
		func(s *api.Schema) {},
		func(s *api.Schema) { s.Enums[0].Names[0] = "idla" },
		func(s *api.Schema) { s.Enums[0].Names[0], s.Enums[0].Names[1] = "run", "idle" },
		func(s *api.Schema) { s.Enums[0].Numbers[1] = 2 },
		func(s *api.Schema) { s.Enums[0].Names, s.Enums[0].Numbers = []string{"idle"}, []int{0} },
		func(s *api.Schema) {
			s.Enums[0].Names, s.Enums[0].Numbers = append(s.Enums[0].Names, "x"), []int{0, 1, 2}
		},
		func(s *api.Schema) { s.Enums[0].Name, s.Structs[0].Fields[0].Type.Name = "Node", "Node" },
		func(s *api.Schema) { s.Enums[0].Name, s.Structs[0].Fields[0].Type.Name = "Zone", "Zone" },
		func(s *api.Schema) {
			s.Enums, s.Structs = nil, append(s.Structs, structure("Mode"))
			s.Structs[0].Fields[0].Type.Kind = api.KStruct
		},
		func(s *api.Schema) { s.Structs[0].Fields[0].Number = 2 },
		func(s *api.Schema) { s.Structs[0].Fields[0].Name = "node" },
		func(s *api.Schema) { s.Structs[0].Fields[0].Optional = true },
		func(s *api.Schema) { s.Structs[0].Fields[0].Type = boolean() },
		func(s *api.Schema) { s.Structs[0].Fields[0].Type = list(1, enumType("Mode")) },
		func(s *api.Schema) { s.Structs[0].Fields = nil },
		func(s *api.Schema) { s.Structs[0].Fields = append(s.Structs[0].Fields, field(2, "a", boolean())) },
		func(s *api.Schema) { s.Structs[0].Name, s.Structs[1].Fields[1].Type.Elem[0].Name = "Tug", "Tug" },
		func(s *api.Schema) { s.Structs[1].Fields[0].Number = 2 },
		func(s *api.Schema) { s.Structs[1].Fields[0].Name = "y" },
		func(s *api.Schema) { s.Structs[1].Fields[0].Optional = true },
		func(s *api.Schema) { s.Structs[1].Fields[0].Type.Size = 16 },
		func(s *api.Schema) { s.Structs[1].Fields[0].Type.Kind = api.KUint },
		func(s *api.Schema) { s.Structs[1].Fields[0].Type.Kind = api.KText },
		func(s *api.Schema) { s.Structs[1].Fields[0].Type = list(32, boolean()) },
		func(s *api.Schema) { s.Structs[1].Fields[0].Type = structType("Tag") },
		func(s *api.Schema) { s.Structs[1].Fields[0].Type = enumType("Mode") },
		func(s *api.Schema) { s.Structs[1].Fields[1].Number = 4 },
		func(s *api.Schema) { s.Structs[1].Fields[1].Name = "tag" },
		func(s *api.Schema) { s.Structs[1].Fields[1].Name = "tagss" },
		func(s *api.Schema) { s.Structs[1].Fields[1].Optional = true },
		func(s *api.Schema) { s.Structs[1].Fields[1].Type.Size = 5 },
		func(s *api.Schema) { s.Structs[1].Fields[1].Type = structType("Tag") },
		func(s *api.Schema) { s.Structs[1].Fields[1].Type = list(4, list(1, structType("Tag"))) },
		func(s *api.Schema) { s.Structs[1].Fields = s.Structs[1].Fields[:1] },
		func(s *api.Schema) { s.Structs[1].Fields = s.Structs[1].Fields[1:] },
		func(s *api.Schema) { s.Structs[1].Fields = append(s.Structs[1].Fields, field(4, "a", boolean())) },
		func(s *api.Schema) {
			s.Structs[1].Fields = append(s.Structs[1].Fields, field(4, "a", structType("Tag")))
		},
	} {
		s := changed(change)
		checked(t, s, api.OK)
		digest := schema.Digest(s, "Pose")
		if other, ok := seen[digest]; ok || digest == 0 {
			t.Errorf("after the changes %d and %d, the digest of Pose is %016x", other, i, digest)
		}
		seen[digest] = i
	}
}

// Structs that differ in nothing but their names have different digests.
func TestDigestsOfNames(t *testing.T) {
	seen := map[uint64]string{}
	s := structs()
	for _, name := range pool() {
		s.Structs = append(s.Structs, record(name, boolean()))
	}
	for _, name := range pool() {
		digest := schema.Digest(s, name)
		if other, ok := seen[digest]; ok {
			t.Errorf("%q and %q have the digest %016x", name, other, digest)
		}
		seen[digest] = name
	}
}

// R1

func TestStrangeArguments(t *testing.T) {
	long := strings.Repeat("A", 1<<20)
	s := strange()
	s.Version = 1
	checked(t, s, api.ErrFormat)
	checked(t, structs(structure(long)), api.ErrName)
	searched(schema.Struct(structs(structure(long)), long)).found(t, structure(long))
	nothing(t, structs(structure(long)), long)
	nothing(t, example(), long, "\x00", "\xff")
	wide := api.Type{Kind: api.KList, Size: 1, Elem: make([]api.Type, 1<<16)}
	checked(t, structs(record("A", wide)), api.ErrType)
	if !schema.Same(wide, wide) || schema.Same(wide, list(1)) {
		t.Error("a list with many elements")
	}
	checked(t, enums(make([]api.Enum, 1<<16)...), api.ErrLong)
	checked(t, structs(structure("A", make([]api.Field, 1<<16)...)), api.ErrLong)
	checked(t, enums(api.Enum{Name: "A", Names: []string{"a"}, Numbers: make([]int, 1<<16)}), api.ErrFormat)
}

func TestTypesOfManyLevels(t *testing.T) {
	const levels = 1<<16 - 2
	deep, other := lists(levels, boolean()), lists(levels, integer(9))
	checked(t, structs(record("A", deep)), api.ErrDepth)
	checked(t, structs(record("A", other)), api.ErrType)
	checked(t, structs(record("A", lists(levels, structType("A")))), api.ErrCycle)
	nothing(t, structs(record("A", deep)), "A")
	if !schema.Same(deep, deep) || schema.Same(deep, other) {
		t.Error("types of many levels are not told apart")
	}
	x, ok := schema.Struct(structs(record("A", deep)), "A")
	if f, found := schema.FieldOf(x, 1); !ok || !found || !schema.Same(f.Type, deep) {
		t.Error("a type of many levels is not found")
	}
}

// dense returns so many structs each of which uses others in all of its fields,
// so that there are 16 times as many ways into each following one.
func dense(length int, last ...api.Type) api.Schema {
	var all []api.Struct
	for i := 1; i < length; i++ {
		all = append(all, record(fmt.Sprintf("S%d", i), slices.Repeat([]api.Type{structType(fmt.Sprintf("S%d", i+1))}, 16)...))
	}
	return structs(append(all, record(fmt.Sprintf("S%d", length), last...))...)
}

func TestManyWays(t *testing.T) {
	checked(t, dense(16), api.ErrDepth)
	checked(t, dense(16, slices.Repeat([]api.Type{structType("S1")}, 16)...), api.ErrCycle)
	checked(t, dense(6), api.OK)
	if got := examine(dense(6), "S1"); got.depth != 6 || got.uses != "S2 S3 S4 S5 S6" {
		t.Errorf("S1 is %v", got)
	}
	var names []string
	var types []api.Type
	for i := range 16 {
		names = append(names, fmt.Sprintf("S%d", i))
		types = append(types, structType(names[i]))
	}
	all := structs()
	for _, name := range names {
		all.Structs = append(all.Structs, record(name, types...))
	}
	checked(t, all, api.ErrCycle)
	nothing(t, all, names...)
}

// R3

// spacious returns the example, with lists that have spare capacity.
func spacious() api.Schema {
	s := example()
	s.Enums = append(make([]api.Enum, 0, 9), s.Enums...)
	s.Structs = append(make([]api.Struct, 0, 9), s.Structs...)
	for i := range s.Enums {
		s.Enums[i].Names = append(make([]string, 0, 9), s.Enums[i].Names...)
		s.Enums[i].Numbers = append(make([]int, 0, 9), s.Enums[i].Numbers...)
	}
	for i := range s.Structs {
		s.Structs[i].Fields = append(make([]api.Field, 0, 9), s.Structs[i].Fields...)
		for k := range s.Structs[i].Fields {
			elem := s.Structs[i].Fields[k].Type.Elem
			s.Structs[i].Fields[k].Type.Elem = append(make([]api.Type, 0, 9), elem...)
		}
	}
	return s
}

// all returns a text of a schema with all of its spare capacity.
func all(s api.Schema) string {
	text := fmt.Sprint(s.Version, s.Enums[:cap(s.Enums)], s.Structs[:cap(s.Structs)])
	for _, x := range s.Enums {
		text += fmt.Sprint(x.Names[:cap(x.Names)], x.Numbers[:cap(x.Numbers)])
	}
	for _, x := range s.Structs {
		text += fmt.Sprint(x.Fields[:cap(x.Fields)])
		for _, f := range x.Fields {
			text += fmt.Sprint(f.Type.Elem[:cap(f.Type.Elem)])
		}
	}
	return text
}

func TestArgumentsAreNotModified(t *testing.T) {
	s := spacious()
	before := all(s)
	for _, name := range []string{"Pose", "Tag", "Mode", "None"} {
		schema.Check(s)
		schema.Struct(s, name)
		schema.Enum(s, name)
		examine(s, name)
	}
	for _, x := range s.Structs {
		for number := range 5 {
			schema.FieldOf(x, number)
		}
		for _, f := range x.Fields {
			schema.Same(f.Type, s.Structs[1].Fields[1].Type)
		}
	}
	if after := all(s); after != before {
		t.Errorf("%s has become %s", before, after)
	}
}

// overwrite changes all of a struct and of its spare capacity.
func overwrite(x api.Struct) {
	fields := x.Fields[:cap(x.Fields)]
	for i := range fields {
		elem := fields[i].Type.Elem[:cap(fields[i].Type.Elem)]
		for k := range elem {
			elem[k] = integer(1000 + k)
		}
		fields[i] = field(-1, "other", integer(999))
	}
}

// A result and the argument do not know of each other.
func TestResultsAreNew(t *testing.T) {
	s := spacious()
	s.Structs[1].Fields[1].Type = list(4, list(5, structType("Tag")))
	before := shown(s)
	pose, _ := schema.Struct(s, "Pose")
	again, _ := schema.Struct(s, "Pose")
	one, _ := schema.FieldOf(s.Structs[1], 3)
	another, _ := schema.FieldOf(s.Structs[1], 3)
	mode, _ := schema.Enum(s, "Mode")
	anew, _ := schema.Enum(s, "Mode")
	uses := schema.Uses(s, "Pose")

	pose.Fields[1].Type.Elem[0].Elem[0] = boolean()
	overwrite(pose)
	one.Type.Elem[0].Elem[0] = boolean()
	one.Type.Elem[0] = integer(9)
	for _, names := range [][]string{mode.Names[:cap(mode.Names)], uses[:cap(uses)]} {
		for i := range names {
			names[i] = "other"
		}
	}
	for i := range mode.Numbers[:cap(mode.Numbers)] {
		mode.Numbers[:cap(mode.Numbers)][i] = 999
	}
	if after := shown(s); after != before {
		t.Errorf("%s has become %s", before, after)
	}
	if shown(again) != shown(s.Structs[1]) || shown(another) != shown(s.Structs[1].Fields[1]) || shown(anew) != shown(s.Enums[0]) {
		t.Errorf("%+v, %+v, %+v", again, another, anew)
	}
	if got := schema.Uses(s, "Pose"); !slices.Equal(got, []string{"Mode", "Tag"}) {
		t.Errorf("Uses = %q", got)
	}

	kept := shown(again) + shown(another) + shown(anew)
	s.Structs[1].Fields[1].Type.Elem[0].Elem[0] = boolean()
	overwrite(s.Structs[1])
	s.Enums[0].Names[0], s.Enums[0].Numbers[0] = "other", 999
	if got := shown(again) + shown(another) + shown(anew); got != kept {
		t.Errorf("%s has become %s", kept, got)
	}
}

// No two lists of one result are the same memory, even where those of the
// argument are.
func TestListsOfResultsAreApart(t *testing.T) {
	shared := list(3, list(2, boolean()))
	s := structs(record("A", shared, shared, list(5, shared, shared)))
	x, _ := schema.Struct(s, "A")
	want := shown(x.Fields[1:])
	x.Fields[0].Type.Elem[0].Elem[0] = integer(9)
	x.Fields[0].Type.Elem[0] = integer(9)
	if got := shown(x.Fields[1:]); got != want {
		t.Errorf("%s has become %s", want, got)
	}
	f, _ := schema.FieldOf(s.Structs[0], 3)
	want = shown(f.Type.Elem[1])
	f.Type.Elem[0].Elem[0].Elem[0] = integer(9)
	if got := shown(f.Type.Elem[1]); got != want {
		t.Errorf("%s has become %s", want, got)
	}
}

// Nothing of a call is kept: schemas with the same names are told apart.
func TestCallsAreIndependent(t *testing.T) {
	s := example()
	want := examine(s, "Pose")
	r := rand.New(rand.NewSource(6))
	for range 500 {
		other := randomSchema(r)
		if r.Intn(2) == 0 {
			damage(r, &other)
		}
		schema.Check(other)
		examine(other, "Pose")
		schema.Struct(other, "Pose")
		checked(t, s, api.OK)
		if got := examine(s, "Pose"); got != want {
			t.Errorf("after %+v: Pose is %v, want %v", other, got, want)
		}
	}
}

// R7

// The iteration order of a map differs from call to call, the results do not.
func TestResultsDoNotDependOnIterationOrder(t *testing.T) {
	s := structs()
	var types []api.Type
	var uses, descriptions []string
	for _, name := range pool()[:15] {
		s.Structs = append(s.Structs, structure(name))
		types = append(types, structType(name))
		uses = append(uses, name)
		descriptions = append(descriptions, fmt.Sprintf("\x06%c%s\x00", len(name), name))
	}
	own := "\x06\x03Own\x0f"
	s.Structs = append(s.Structs, record("Own", types...))
	for i, name := range pool()[:15] {
		own += fmt.Sprintf("%c\x01%c\x06\x00%c%s\x00\x00", i+1, 'a'+i, len(name), name)
	}
	want := examination{2, strings.Join(uses, " "), checksum.Hash(own + strings.Join(descriptions, ""))}
	for range 300 {
		checked(t, s, api.OK)
		if got := examine(s, "Own"); got != want {
			t.Errorf("Own is %v, want %v", got, want)
		}
	}
	// Of several errors of different structs, the same one counts each time.
	s.Structs[3].Fields = []api.Field{field(1, "a", structType("Own"))}
	s.Structs[7].Fields = []api.Field{field(1, "a", lists(7, boolean()))}
	for range 300 {
		checked(t, s, api.ErrCycle)
	}
}
