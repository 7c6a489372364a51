package codec

import (
	"robotics/api"
	"robotics/schema"
	"robotics/value"
	"robotics/wire"
)

// reader reads the contents of values of the types of a valid schema. Together
// with an error the value is of no use.
type reader struct {
	schema api.Schema
}

func (r reader) content(t api.Type, b string) (api.Value, api.Errno) {
	switch t.Kind {
	case api.KBool:
		return r.boolean(b)
	case api.KText:
		return r.text(t, b)
	case api.KList:
		return r.list(t, b)
	case api.KStruct:
		return r.structure(t, b)
	}
	return r.number(t, b)
}

func (r reader) boolean(b string) (api.Value, api.Errno) {
	switch b {
	case "":
		return api.Value{}, api.ErrShort
	case "\x00", "\x01":
		return api.Value{Kind: api.KBool, N: int64(b[0])}, api.OK
	}
	return api.Value{}, api.ErrFormat
}

func (r reader) number(t api.Type, b string) (api.Value, api.Errno) {
	in := wire.NewReader(b)
	v := api.Value{Kind: t.Kind}
	if t.Kind == api.KInt {
		v.N = in.Int()
	} else {
		// A number too large for an int64 becomes a negative one, which is not
		// in the range of these types either.
		v.N = int64(in.Uint())
	}
	if e := in.Err(); e != api.OK {
		return v, e
	}
	if in.Left() > 0 {
		return v, api.ErrFormat
	}
	return v, value.Check(r.schema, t, v)
}

func (r reader) text(t api.Type, b string) (api.Value, api.Errno) {
	v := api.Value{Kind: api.KText, S: b}
	return v, value.Check(r.schema, t, v)
}

func (r reader) list(t api.Type, b string) (api.Value, api.Errno) {
	in := wire.NewReader(b)
	v := api.Value{Kind: api.KList}
	count := in.Uint()
	if e := in.Err(); e != api.OK {
		return v, e
	}
	if count > uint64(t.Size) {
		return v, api.ErrLong
	}
	for range count {
		content, e := readContent(in)
		if e != api.OK {
			return v, e
		}
		x, e := r.content(t.Elem[0], content)
		if e != api.OK {
			return v, e
		}
		v.L = append(v.L, x)
	}
	if in.Left() > 0 {
		return v, api.ErrFormat
	}
	return v, api.OK
}

func (r reader) structure(t api.Type, b string) (api.Value, api.Errno) {
	x, _ := schema.Struct(r.schema, t.Name)
	v := api.Value{Kind: api.KStruct}
	e := walk(b, func(number int, content string) api.Errno {
		f, ok := schema.FieldOf(x, number)
		if !ok {
			return api.OK
		}
		y, e := r.content(f.Type, content)
		if e != api.OK {
			return e
		}
		if isOmitted(f, content) {
			return api.ErrFormat
		}
		v.F = append(v.F, api.Entry{Number: number, Value: y})
		return api.OK
	})
	if e != api.OK {
		return v, e
	}
	v.F = r.complete(x.Fields, v.F)
	return v, api.OK
}

// complete adds the fields that were omitted to those that were read, all of
// them by ascending numbers.
func (r reader) complete(fields []api.Field, read []api.Entry) []api.Entry {
	var all []api.Entry
	for _, f := range fields {
		if len(read) > 0 && read[0].Number == f.Number {
			all = append(all, read[0])
			read = read[1:]
		} else if !f.Optional {
			zero, _ := r.content(f.Type, zeroContent(f.Type))
			all = append(all, api.Entry{Number: f.Number, Value: zero})
		}
	}
	return all
}
