package valuetext

import (
	"robotics/api"
	"robotics/schema"
)

// notation is how the values of a kind of types are written and read.
type notation struct {
	write func(writer, api.Type, api.Value) bool
	read  func(reader, api.Type) (api.Value, bool)
}

// notationOf returns the notation of the kind of a permitted type.
func notationOf(kind int) notation {
	switch kind {
	case api.KBool, api.KEnum:
		return notation{writer.name, reader.name}
	case api.KInt, api.KUint:
		return notation{writer.number, reader.number}
	case api.KText:
		return notation{writer.text, reader.text}
	case api.KList:
		return notation{writer.list, reader.list}
	}
	return notation{writer.structure, reader.structure}
}

// namesOf returns the names of the values of an enumeration or, as if they were
// one, of the booleans.
func namesOf(s api.Schema, t api.Type) api.Enum {
	if t.Kind == api.KBool {
		return api.Enum{Names: []string{"false", "true"}, Numbers: []int{0, 1}}
	}
	x, _ := schema.Enum(s, t.Name)
	return x
}
