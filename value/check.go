package value

import (
	"slices"

	"robotics/api"
	"robotics/schema"
)

// exceeds reports whether a value has more levels than these.
func exceeds(v api.Value, levels int) bool {
	if v.Kind != api.KList && v.Kind != api.KStruct && len(v.L) == 0 && len(v.F) == 0 {
		return false
	}
	if levels == 0 {
		return true
	}
	return slices.ContainsFunc(v.L, func(x api.Value) bool { return exceeds(x, levels-1) }) ||
		slices.ContainsFunc(v.F, func(f api.Entry) bool { return exceeds(f.Value, levels-1) })
}

// checker checks values of a type of a schema. Its methods that are named
// after the kinds rely on what admit has found out.
type checker struct {
	schema api.Schema
	of     api.Type
}

// check returns the first error of a value and of the values within it.
func (c checker) check(v api.Value) api.Errno {
	switch c.of.Kind {
	case api.KBool:
		return c.admit(v, c.boolean)
	case api.KInt:
		return c.admit(v, c.signed)
	case api.KUint:
		return c.admit(v, c.unsigned)
	case api.KText:
		return c.admit(v, c.text)
	case api.KList:
		return c.admit(v, c.list)
	case api.KStruct:
		return c.admit(v, c.structure)
	case api.KEnum:
		return c.admit(v, c.enum)
	}
	return api.ErrType
}

// admit passes a value to the check of a kind, if the type is permitted and
// the value has nothing that is not of the kind. Each type is examined, not
// only the outermost one, because the schema need not be valid.
func (c checker) admit(v api.Value, check func(api.Value) api.Errno) api.Errno {
	if !permits(c.schema, c.of) || v.Kind != c.of.Kind || !isPure(v) {
		return api.ErrType
	}
	return check(v)
}

// isPure reports whether a value has nothing but what its kind uses.
func isPure(v api.Value) bool {
	switch v.Kind {
	case api.KText:
		v.S = ""
	case api.KList:
		v.L = nil
	case api.KStruct:
		v.F = nil
	default:
		v.N = 0
	}
	return v.N == 0 && v.S == "" && len(v.L) == 0 && len(v.F) == 0
}

func (c checker) boolean(v api.Value) api.Errno {
	return checkRange(v.N, 0, 1)
}

func (c checker) signed(v api.Value) api.Errno {
	least := int64(-1) << (c.of.Size - 1)
	return checkRange(v.N, least, -1-least)
}

func (c checker) unsigned(v api.Value) api.Errno {
	return checkRange(v.N, 0, int64(1)<<c.of.Size-1)
}

func (c checker) enum(v api.Value) api.Errno {
	x, _ := schema.Enum(c.schema, c.of.Name)
	if !slices.ContainsFunc(x.Numbers, func(number int) bool { return int64(number) == v.N }) {
		return api.ErrRange
	}
	return api.OK
}

func (c checker) text(v api.Value) api.Errno {
	if len(v.S) > c.of.Size {
		return api.ErrLong
	}
	return api.OK
}

func (c checker) list(v api.Value) api.Errno {
	if len(v.L) > c.of.Size {
		return api.ErrLong
	}
	element := checker{c.schema, c.of.Elem[0]}
	for _, x := range v.L {
		if e := element.check(x); e != api.OK {
			return e
		}
	}
	return api.OK
}

func (c checker) structure(v api.Value) api.Errno {
	x, _ := schema.Struct(c.schema, c.of.Name)
	types, ok := match(x.Fields, v.F)
	if !ok {
		return api.ErrType
	}
	for i, f := range v.F {
		if e := (checker{c.schema, types[i]}).check(f.Value); e != api.OK {
			return e
		}
	}
	return api.OK
}

// match returns the types of entries, whose numbers must ascend and be those
// of fields, of which none may be missing that is not optional. As the numbers
// of the fields ascend, an entry that does not must be left over.
func match(fields []api.Field, entries []api.Entry) ([]api.Type, bool) {
	var types []api.Type
	for _, f := range fields {
		if i := len(types); i < len(entries) && entries[i].Number == f.Number {
			types = append(types, f.Type)
		} else if !f.Optional {
			return nil, false
		}
	}
	return types, len(types) == len(entries)
}

func checkRange(n, least, most int64) api.Errno {
	if n < least || n > most {
		return api.ErrRange
	}
	return api.OK
}
