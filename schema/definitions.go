package schema

import (
	"maps"
	"slices"

	"robotics/api"
)

// definitions are the structs and the enumerations of a schema by their names.
// Only those of a valid schema have no name in common.
type definitions struct {
	structs map[string]api.Struct
	enums   map[string]api.Enum
}

// define returns the definitions of a schema.
func define(s api.Schema) definitions {
	d := definitions{structs: map[string]api.Struct{}, enums: map[string]api.Enum{}}
	for _, t := range s.Structs {
		d.structs[t.Name] = t
	}
	for _, x := range s.Enums {
		d.enums[x.Name] = x
	}
	return d
}

func (d definitions) hasStruct(name string) bool {
	_, ok := d.structs[name]
	return ok
}

func (d definitions) hasEnum(name string) bool {
	_, ok := d.enums[name]
	return ok
}

// permits reports whether a type is valid.
func (d definitions) permits(t api.Type) bool {
	if !isSize(t.Kind, t.Size) {
		return false
	}
	switch t.Kind {
	case api.KList:
		return t.Name == "" && len(t.Elem) == 1 && d.permits(t.Elem[0])
	case api.KStruct:
		return d.hasStruct(t.Name) && len(t.Elem) == 0
	case api.KEnum:
		return d.hasEnum(t.Name) && len(t.Elem) == 0
	}
	return t.Name == "" && len(t.Elem) == 0
}

// isSize reports whether there are types of this kind and size.
func isSize(kind, size int) bool {
	switch kind {
	case api.KBool, api.KStruct, api.KEnum:
		return size == 0
	case api.KInt:
		return size == 8 || size == 16 || size == 32 || size == 64
	case api.KUint:
		return size == 8 || size == 16 || size == 32
	case api.KText:
		return 1 <= size && size <= api.MaxPayload
	case api.KList:
		return 1 <= size && size <= api.MaxList
	}
	return false
}

// innermost returns the type within all lists of a valid type, and the number
// of these lists.
func innermost(t api.Type) (api.Type, int) {
	lists := 0
	for t.Kind == api.KList {
		t = t.Elem[0]
		lists++
	}
	return t, lists
}

// used returns the names of what a struct with valid types uses, in ascending
// order.
func (d definitions) used(name string) []string {
	found := map[string]bool{}
	var visit func(t api.Struct)
	visit = func(t api.Struct) {
		for _, f := range t.Fields {
			inner, _ := innermost(f.Type)
			if inner.Name == "" || found[inner.Name] {
				continue
			}
			found[inner.Name] = true
			// The name of an enumeration leads to a struct without fields.
			visit(d.structs[inner.Name])
		}
	}
	visit(d.structs[name])
	return slices.Sorted(maps.Keys(found))
}

// depth returns the depth of a struct that does not use itself. The depths of
// structs that are used many times would take too long to find each time, so
// they are kept.
func (d definitions) depth(name string, kept map[string]int) int {
	if depth, ok := kept[name]; ok {
		return depth
	}
	greatest := 0
	for _, f := range d.structs[name].Fields {
		inner, depth := innermost(f.Type)
		if inner.Kind == api.KStruct {
			depth += d.depth(inner.Name, kept)
		}
		greatest = max(greatest, depth)
	}
	kept[name] = 1 + greatest
	return kept[name]
}
