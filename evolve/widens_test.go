package evolve_test

import (
	"math/rand"
	"slices"
	"testing"

	"robotics/api"
	"robotics/codec"
	"robotics/evolve"
	"robotics/schema"
	"robotics/value"
)

// P12.1

// widened checks what Widens says of two types, and, unless they are the same,
// that it is not so the other way round.
func widened(t *testing.T, a, b api.Type, want bool) {
	t.Helper()
	if got := evolve.Widens(a, b); got != want {
		t.Errorf("Widens(%+v, %+v) = %v", a, b, got)
	}
	if want && !schema.Same(a, b) && evolve.Widens(b, a) {
		t.Errorf("Widens(%+v, %+v) = true", b, a)
	}
}

// Types of each kind and size with one another.
func TestWidens(t *testing.T) {
	texts := []string{
		"bool", "int8", "int16", "int32", "int64", "uint8", "uint16", "uint32", "text[1]", "text[2]", "text[2000]", "Pose", "Arm",
		"list[1] of bool", "list[2] of bool", "list[32] of bool", "list[2] of int8", "list[2] of int16", "list[3] of int8", "list[2] of uint16", "list[2] of text[1]", "list[2] of text[2]",
		"list[2] of Pose", "list[3] of Pose", "list[2] of Arm", "list[2] of list[2] of int8", "list[2] of list[3] of int8", "list[3] of list[2] of int8", "list[2] of list[2] of int16", "list[3] of list[3] of int16",
	}
	wider := map[string][]string{
		"int8":                        {"int16", "int32", "int64"},
		"int16":                       {"int32", "int64"},
		"int32":                       {"int64"},
		"uint8":                       {"uint16", "uint32"},
		"uint16":                      {"uint32"},
		"text[1]":                     {"text[2]", "text[2000]"},
		"text[2]":                     {"text[2000]"},
		"list[1] of bool":             {"list[2] of bool", "list[32] of bool"},
		"list[2] of bool":             {"list[32] of bool"},
		"list[2] of int8":             {"list[2] of int16", "list[3] of int8"},
		"list[2] of text[1]":          {"list[2] of text[2]"},
		"list[2] of Pose":             {"list[3] of Pose"},
		"list[2] of list[2] of int8":  {"list[2] of list[3] of int8", "list[3] of list[2] of int8", "list[2] of list[2] of int16", "list[3] of list[3] of int16"},
		"list[2] of list[3] of int8":  {"list[3] of list[3] of int16"},
		"list[3] of list[2] of int8":  {"list[3] of list[3] of int16"},
		"list[2] of list[2] of int16": {"list[3] of list[3] of int16"},
	}
	for _, a := range texts {
		for _, b := range texts {
			widened(t, typeOf(a), typeOf(b), a == b || slices.Contains(wider[a], b))
		}
	}
}

// Structs and enumerations are the same by their kinds and names.
func TestWidensOfDefinitions(t *testing.T) {
	for _, wrap := range []func(api.Type) api.Type{
		func(x api.Type) api.Type { return x },
		func(x api.Type) api.Type { return listType(2, x) },
		func(x api.Type) api.Type { return nestedType(5, 3, x) },
	} {
		widened(t, wrap(structType("Arm")), wrap(structType("Arm")), true)
		widened(t, wrap(enumType("Arm")), wrap(enumType("Arm")), true)
		widened(t, wrap(structType("")), wrap(structType("")), true)
		widened(t, wrap(structType("Arm")), wrap(structType("Leg")), false)
		widened(t, wrap(enumType("Arm")), wrap(enumType("Leg")), false)
		widened(t, wrap(structType("Arm")), wrap(enumType("Arm")), false)
		widened(t, wrap(enumType("Arm")), wrap(structType("Arm")), false)
		widened(t, wrap(structType("Arm")), wrap(structType("arm")), false)
		widened(t, wrap(structType("Arm")), wrap(structType("Arms")), false)
		widened(t, wrap(structType("Arm")), wrap(structType("")), false)
	}
	sized, with := structType("Arm"), enumType("Arm")
	sized.Size, with.Elem = 1, []api.Type{typeOf("bool")}
	widened(t, sized, sized, true)
	widened(t, structType("Arm"), sized, false)
	widened(t, with, with, true)
	widened(t, enumType("Arm"), with, false)
	widened(t, with, enumType("Arm"), false)
}

// Types that are not valid, with any size, name and elements.
func TestWidensOfAnyTypes(t *testing.T) {
	small, big := typeOf("int8"), typeOf("int16")
	named := api.Type{Kind: api.KInt, Size: 8, Name: "A"}
	var all []api.Type
	for kind := -1; kind <= 8; kind++ {
		for _, size := range []int{least, -1, 0, 1, 8, 9, most} {
			for _, name := range []string{"", "A", "B"} {
				for _, elem := range [][]api.Type{nil, {}, {small}, {big}, {small, small}, {small, big}, {named}, {listType(1, small)}, {listType(2, big)}, {listType(1)}, {listType(2)}} {
					all = append(all, api.Type{Kind: kind, Size: size, Name: name, Elem: elem})
				}
			}
		}
	}
	r := rand.New(rand.NewSource(1))
	counts := map[bool]int{}
	for range 400000 {
		a, b := pick(r, all...), pick(r, all...)
		if r.Intn(2) == 0 {
			b.Kind = a.Kind
		}
		if r.Intn(2) == 0 {
			b.Name = a.Name
		}
		if r.Intn(2) == 0 {
			b.Elem = a.Elem
		}
		want := widens(a, b)
		widened(t, a, b, want)
		counts[want]++
	}
	if counts[true] < 10000 || counts[false] < 10000 {
		t.Errorf("types that widen and that do not: %v", counts)
	}
}

// A greater size does not make up for anything else.
func TestWidensOfInvalidTypes(t *testing.T) {
	small, big := typeOf("int8"), typeOf("int16")
	for _, kind := range []int{api.KInt, api.KUint, api.KText} {
		of := func(size int, name string, elem ...api.Type) api.Type {
			return api.Type{Kind: kind, Size: size, Name: name, Elem: elem}
		}
		widened(t, of(-5, ""), of(-4, ""), true)
		widened(t, of(least, ""), of(most, ""), true)
		widened(t, of(0, ""), of(3, ""), true)
		widened(t, of(3, ""), of(3, ""), true)
		widened(t, of(4, ""), of(3, ""), false)
		widened(t, of(3, "A"), of(4, "A"), true)
		widened(t, of(3, "A"), of(4, "B"), false)
		widened(t, of(3, ""), of(4, "B"), false)
		widened(t, of(3, "A"), of(4, ""), false)
		widened(t, of(3, "", small), of(4, "", small), true)
		widened(t, of(3, "", small), of(4, "", big), false)
		widened(t, of(3, "", small), of(3, "", big), false)
		widened(t, of(3, "", small), of(4, ""), false)
		widened(t, of(3, ""), of(4, "", small), false)
		widened(t, of(3, "", small, big), of(4, "", small, big), true)
		widened(t, of(3, "", small, big), of(4, "", big, small), false)
	}
	for _, kind := range []int{-1, 0, api.KBool, api.KStruct, api.KEnum, 8, 99} {
		widened(t, api.Type{Kind: kind, Size: 3}, api.Type{Kind: kind, Size: 3}, true)
		widened(t, api.Type{Kind: kind, Size: 3}, api.Type{Kind: kind, Size: 4}, false)
		widened(t, api.Type{Kind: kind, Elem: []api.Type{small}}, api.Type{Kind: kind, Elem: []api.Type{small}}, true)
		widened(t, api.Type{Kind: kind, Elem: []api.Type{small}}, api.Type{Kind: kind, Elem: []api.Type{big}}, false)
	}
}

// Lists with no element type, with one and with two, and with names.
func TestWidensOfLists(t *testing.T) {
	small, big := typeOf("int8"), typeOf("int16")
	widened(t, listType(2), listType(2), true)
	widened(t, listType(2), listType(3), false)
	widened(t, listType(3), listType(2), false)
	widened(t, listType(2), listType(2, small), false)
	widened(t, listType(2, small), listType(2), false)
	widened(t, listType(2, small), listType(2, small, small), false)
	widened(t, listType(2, small, small), listType(2, small), false)
	widened(t, listType(2, small, small), listType(2, small, small), true)
	widened(t, listType(2, small, small), listType(3, small, small), false)
	widened(t, listType(2, small, small), listType(2, small, big), false)
	widened(t, listType(2, small, small), listType(2, big, big), false)
	widened(t, listType(0, small), listType(1, small), true)
	widened(t, listType(-2, small), listType(-1, big), true)
	widened(t, listType(5, small), listType(4, big), false)
	widened(t, listType(4, big), listType(5, small), false)
	widened(t, listType(1, listType(2)), listType(3, listType(2)), true)
	widened(t, listType(1, listType(2)), listType(3, listType(3)), false)
	widened(t, listType(1, listType(2, small, small)), listType(3, listType(2, small, small)), true)
	widened(t, listType(1, small), small, false)
	widened(t, small, listType(1, small), false)
	widened(t, listType(1, listType(1, small)), listType(1, small), false)
	widened(t, listType(1, small), listType(1, listType(1, small)), false)

	a, b := listType(2, small), listType(3, big)
	a.Name = "A"
	widened(t, a, b, false)
	widened(t, b, a, false)
	b.Name = "B"
	widened(t, a, b, false)
	b.Name = "A"
	widened(t, a, b, true)
	a.Elem[0].Name = "C"
	widened(t, a, b, false)
	b.Elem[0].Name = "C"
	widened(t, a, b, true)
}

func TestWidensOfDeepLists(t *testing.T) {
	small, big := typeOf("int8"), typeOf("int16")
	for _, levels := range []int{1, 6, 7, 1<<16 - 1} {
		a := nestedType(levels, 2, small)
		widened(t, a, nestedType(levels, 2, small), true)
		widened(t, a, nestedType(levels, 3, small), true)
		widened(t, a, nestedType(levels, 2, big), true)
		widened(t, a, nestedType(levels, 3, big), true)
		widened(t, a, nestedType(levels, 3, typeOf("uint16")), false)
		widened(t, a, nestedType(levels-1, 3, big), false)
		widened(t, a, nestedType(levels+1, 3, big), false)
		widened(t, nestedType(levels, 2, big), nestedType(levels, 3, small), false)
		narrow := listType(1, nestedType(levels-1, 3, big))
		widened(t, a, narrow, false)
	}
}

// If b widens a, each value of a is one of b, and its encoding is the same.
func TestValuesOfWiderTypes(t *testing.T) {
	r := rand.New(rand.NewSource(2))
	holding := func(x api.Type) api.Schema {
		s := schemaOf(sample)
		s.Structs = append(s.Structs, api.Struct{Name: "X", Fields: []api.Field{{Number: 1, Name: "x", Type: x, Optional: true}}})
		return s
	}
	known := []api.Type{structType("Point"), structType("Arm"), enumType("Mode"), enumType("Side")}
	compared := 0
	for compared < 3000 {
		a := randomType(r, known)
		b := clonedType(a)
		resize(r, &b)
		if !evolve.Widens(a, b) || schema.Same(a, b) {
			continue
		}
		old, new := holding(a), holding(b)
		v := record(entry(1, randomValue(r, old, a)))
		before, e := codec.Encode(old, "X", v)
		after, f := codec.Encode(new, "X", v)
		if schema.Check(old) != api.OK || schema.Check(new) != api.OK || e == api.ErrLong {
			continue
		}
		if value.Check(new, structType("X"), v) != api.OK || before != after || e != api.OK || f != api.OK {
			t.Errorf("of %+v and %+v: %+v is encoded as %x, %v and as %x, %v", a, b, v, before, e, after, f)
		}
		compared++
	}
}

// P12.8

func TestWidensIsReflexive(t *testing.T) {
	r := rand.New(rand.NewSource(3))
	known := []api.Type{structType("A"), enumType("B"), {}, {Kind: 99, Size: -1, Name: "a", Elem: make([]api.Type, 3)}, listType(2), listType(2, structType("A"), enumType("B")), listType(-1, api.Type{})}
	for range 5000 {
		x := randomType(r, known)
		widened(t, x, clonedType(x), true)
	}
}

// All of three types, which are often similar.
func TestWidensIsTransitive(t *testing.T) {
	r := rand.New(rand.NewSource(4))
	known := []api.Type{structType("A"), enumType("B"), listType(2), {Kind: api.KInt, Size: 5, Name: "C"}}
	chains := 0
	for range 50000 {
		a := randomType(r, known)
		b := clonedType(a)
		resize(r, &b)
		c := clonedType(b)
		resize(r, &c)
		if r.Intn(5) == 0 {
			c = randomType(r, known)
		}
		if evolve.Widens(a, b) && evolve.Widens(b, c) {
			widened(t, a, c, true)
			if !schema.Same(a, b) && !schema.Same(b, c) {
				chains++
			}
		}
	}
	if chains < 1000 {
		t.Errorf("only %d chains", chains)
	}
}
