package value

import (
	"slices"

	"robotics/api"
	"robotics/schema"
)

// permits reports whether a type is one that schema.Check permits for a field.
func permits(s api.Schema, t api.Type) bool {
	isPlain := t.Name == "" && len(t.Elem) == 0
	isReference := t.Size == 0 && len(t.Elem) == 0
	switch t.Kind {
	case api.KBool:
		return isPlain && t.Size == 0
	case api.KInt:
		return isPlain && slices.Contains([]int{8, 16, 32, 64}, t.Size)
	case api.KUint:
		return isPlain && slices.Contains([]int{8, 16, 32}, t.Size)
	case api.KText:
		return isPlain && 1 <= t.Size && t.Size <= api.MaxPayload
	case api.KList:
		return t.Name == "" && 1 <= t.Size && t.Size <= api.MaxList && len(t.Elem) == 1 && permits(s, t.Elem[0])
	case api.KStruct:
		_, ok := schema.Struct(s, t.Name)
		return isReference && ok
	case api.KEnum:
		_, ok := schema.Enum(s, t.Name)
		return isReference && ok
	}
	return false
}

// zero returns the zero value of a permitted type of a valid schema.
func zero(s api.Schema, t api.Type) api.Value {
	v := api.Value{Kind: t.Kind}
	if t.Kind != api.KStruct {
		return v
	}
	x, _ := schema.Struct(s, t.Name)
	for _, f := range x.Fields {
		if !f.Optional {
			v.F = append(v.F, api.Entry{Number: f.Number, Value: zero(s, f.Type)})
		}
	}
	return v
}
