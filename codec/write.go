package codec

import (
	"robotics/api"
	"robotics/schema"
	"robotics/wire"
)

// writer writes the contents of values of the types of a valid schema. The
// content of a large value is not written to its end, but only until it is too
// long for a message; whatever it is within is then too long, too.
type writer struct {
	schema api.Schema
}

func (w writer) content(t api.Type, v api.Value) string {
	switch t.Kind {
	case api.KInt:
		return wire.Int(v.N)
	case api.KText:
		return v.S
	case api.KList:
		return w.list(t, v)
	case api.KStruct:
		return w.structure(t, v)
	}
	// The byte of a boolean is the varint of 0 or 1.
	return wire.Uint(uint64(v.N))
}

func (w writer) list(t api.Type, v api.Value) string {
	count := wire.Uint(uint64(len(v.L)))
	return gather(count, len(v.L), func(out []byte, i int) []byte {
		return append(out, wire.Text(w.content(t.Elem[0], v.L[i]))...)
	})
}

func (w writer) structure(t api.Type, v api.Value) string {
	x, _ := schema.Struct(w.schema, t.Name)
	return gather("", len(v.F), func(out []byte, i int) []byte {
		f, _ := schema.FieldOf(x, v.F[i].Number)
		content := w.content(f.Type, v.F[i].Value)
		if isOmitted(f, content) {
			return out
		}
		return append(out, wire.Uint(uint64(f.Number))+wire.Text(content)...)
	})
}

// gather returns a beginning with so many parts behind it, each of which put
// appends to the output. It stops as soon as the output is too long.
func gather(beginning string, parts int, put func(out []byte, i int) []byte) string {
	out := []byte(beginning)
	for i := range parts {
		if len(out) > api.MaxPayload {
			break
		}
		out = put(out, i)
	}
	return string(out)
}
