package evolve

import (
	"cmp"
	"slices"

	"robotics/api"
	"robotics/schema"
)

// merge returns the schema with the types and fields of two valid schemas, or
// false if these are not compatible. It may use their memory, and what it
// returns need not be valid.
func merge(a, b api.Schema) (api.Schema, bool) {
	if mixes(a, b) || mixes(b, a) {
		return api.Schema{}, false
	}
	enums, ok := mergeLists(a.Enums, b.Enums, func(x api.Enum) string { return x.Name }, mergeEnums)
	if !ok {
		return api.Schema{}, false
	}
	structs, ok := mergeLists(a.Structs, b.Structs, func(x api.Struct) string { return x.Name }, mergeStructs)
	if !ok {
		return api.Schema{}, false
	}
	return api.Schema{Version: max(a.Version, b.Version), Enums: enums, Structs: structs}, true
}

// mixes reports whether a name is that of a struct in a and of an enumeration
// in b.
func mixes(a, b api.Schema) bool {
	return slices.ContainsFunc(a.Structs, func(x api.Struct) bool {
		_, ok := schema.Enum(b, x.Name)
		return ok
	})
}

// mergeLists returns the definitions of a, in which those that are in both are
// merged, and behind them those that are only in b. It returns false if two of
// them cannot be merged.
func mergeLists[T any](a, b []T, nameOf func(T) string, mergeBoth func(x, y T) (T, bool)) ([]T, bool) {
	var merged []T
	for _, x := range a {
		i := slices.IndexFunc(b, func(y T) bool { return nameOf(y) == nameOf(x) })
		if i >= 0 {
			both, ok := mergeBoth(x, b[i])
			if !ok {
				return nil, false
			}
			x = both
		}
		merged = append(merged, x)
	}
	for _, y := range b {
		if !slices.ContainsFunc(a, func(x T) bool { return nameOf(x) == nameOf(y) }) {
			merged = append(merged, y)
		}
	}
	return merged, true
}

// mergeEnums returns the enumeration with the names and numbers of both, or
// false if a number has two names, or a name two numbers.
func mergeEnums(x, y api.Enum) (api.Enum, bool) {
	merged := api.Enum{Name: x.Name}
	for number := range api.MaxNumber + 1 {
		name, other := nameOf(x, number), nameOf(y, number)
		if name != "" && other != "" && name != other {
			return api.Enum{}, false
		}
		name = cmp.Or(name, other)
		if name == "" {
			continue
		}
		if slices.Contains(merged.Names, name) {
			return api.Enum{}, false
		}
		merged.Names, merged.Numbers = append(merged.Names, name), append(merged.Numbers, number)
	}
	return merged, true
}

// nameOf returns the name that a number has in a valid enumeration, or nothing.
func nameOf(x api.Enum, number int) string {
	i := slices.Index(x.Numbers, number)
	if i < 0 {
		return ""
	}
	return x.Names[i]
}

// mergeStructs returns the struct with the fields of both, or false if two of
// these cannot be merged, or one that is not optional is only in one struct.
func mergeStructs(x, y api.Struct) (api.Struct, bool) {
	merged := api.Struct{Name: x.Name}
	for number := range api.MaxNumber + 1 {
		f, inX := schema.FieldOf(x, number)
		g, inY := schema.FieldOf(y, number)
		ok := true
		switch {
		case inX && inY:
			f, ok = mergeFields(f, g)
		case inX:
			ok = f.Optional
		case inY:
			f, ok = g, g.Optional
		default:
			continue
		}
		if !ok {
			return api.Struct{}, false
		}
		merged.Fields = append(merged.Fields, f)
	}
	return merged, true
}

// mergeFields returns the field that two structs have, with the wider one of
// its types, or false if there is none, or it is optional in only one of them.
func mergeFields(f, g api.Field) (api.Field, bool) {
	if Widens(f.Type, g.Type) {
		f.Type = g.Type
	} else if !Widens(g.Type, f.Type) {
		return api.Field{}, false
	}
	return f, f.Optional == g.Optional
}

// renew returns a valid schema in new memory.
func renew(s api.Schema) api.Schema {
	s.Enums, s.Structs = slices.Clone(s.Enums), slices.Clone(s.Structs)
	for i, x := range s.Enums {
		s.Enums[i], _ = schema.Enum(s, x.Name)
	}
	for i, x := range s.Structs {
		s.Structs[i], _ = schema.Struct(s, x.Name)
	}
	return s
}
