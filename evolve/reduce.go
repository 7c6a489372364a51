package evolve

import (
	"robotics/api"
	"robotics/schema"
)

// reduce returns a value without the entries that the type does not know. It
// may use the memory of the value.
func reduce(s api.Schema, t api.Type, v api.Value) api.Value {
	if v.Kind != t.Kind {
		return v
	}
	switch t.Kind {
	case api.KList:
		for i, x := range v.L {
			v.L[i] = reduce(s, t.Elem[0], x)
		}
	case api.KStruct:
		v.F = reduceEntries(s, t, v.F)
	}
	return v
}

func reduceEntries(s api.Schema, t api.Type, entries []api.Entry) []api.Entry {
	x, _ := schema.Struct(s, t.Name)
	var known []api.Entry
	for _, entry := range entries {
		if f, ok := schema.FieldOf(x, entry.Number); ok {
			entry.Value = reduce(s, f.Type, entry.Value)
			known = append(known, entry)
		}
	}
	return known
}
