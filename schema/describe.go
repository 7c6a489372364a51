package schema

import (
	"robotics/api"
	"robotics/wire"
)

// describe returns the description of the definition with this name in a valid
// schema.
func (d definitions) describe(name string) string {
	if d.hasStruct(name) {
		return describeStruct(d.structs[name])
	}
	return describeEnum(d.enums[name])
}

func describeStruct(t api.Struct) string {
	description := number(api.KStruct) + wire.Text(t.Name) + number(len(t.Fields))
	for _, f := range t.Fields {
		description += number(f.Number) + wire.Text(f.Name) + describeType(f.Type)
		if f.Optional {
			description += number(1)
		} else {
			description += number(0)
		}
	}
	return description
}

func describeEnum(x api.Enum) string {
	description := number(api.KEnum) + wire.Text(x.Name) + number(len(x.Names))
	for i, name := range x.Names {
		description += wire.Text(name) + number(x.Numbers[i])
	}
	return description
}

func describeType(t api.Type) string {
	description := number(t.Kind) + number(t.Size) + wire.Text(t.Name) + number(len(t.Elem))
	for _, inner := range t.Elem {
		description += describeType(inner)
	}
	return description
}

// number returns the varint of a number, none of which is negative in a valid
// schema.
func number(n int) string {
	return wire.Uint(uint64(n))
}
