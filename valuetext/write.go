package valuetext

import (
	"slices"
	"strconv"
	"strings"

	"robotics/api"
	"robotics/lexer"
	"robotics/schema"
)

// writer writes the text of a value of a type of a valid schema. Its methods
// report whether a value can have a text that begins with what was written;
// what follows from then on is of no use.
type writer struct {
	schema api.Schema
	out    *strings.Builder
}

func (w writer) write(t api.Type, v api.Value) bool {
	return notationOf(t.Kind).write(w, t, v)
}

func (w writer) name(t api.Type, v api.Value) bool {
	x := namesOf(w.schema, t)
	return w.put(x.Names[slices.Index(x.Numbers, int(v.N))])
}

func (w writer) number(_ api.Type, v api.Value) bool {
	return w.put(strconv.FormatInt(v.N, 10))
}

func (w writer) text(_ api.Type, v api.Value) bool {
	// Strings that no text can hold are no tokens, so Print leaves them out.
	quoted := lexer.Print([]api.Token{{Kind: api.TkString, Text: v.S}})
	return quoted != "" && w.put(quoted)
}

func (w writer) list(t api.Type, v api.Value) bool {
	return w.sequence("[", "]", len(v.L), func(i int) bool {
		return w.write(t.Elem[0], v.L[i])
	})
}

func (w writer) structure(t api.Type, v api.Value) bool {
	x, _ := schema.Struct(w.schema, t.Name)
	return w.sequence("{", "}", len(v.F), func(i int) bool {
		f, _ := schema.FieldOf(x, v.F[i].Number)
		return w.put(f.Name+" = ") && w.write(f.Type, v.F[i].Value)
	})
}

// sequence writes so many parts between two marks, separated by commas.
func (w writer) sequence(opening, closing string, parts int, part func(i int) bool) bool {
	w.put(opening)
	for i := range parts {
		if i > 0 {
			w.put(", ")
		}
		if !part(i) {
			return false
		}
	}
	return w.put(closing)
}

// put writes a piece. The text of a large value is not written to its end, but
// only until it is too long.
func (w writer) put(piece string) bool {
	w.out.WriteString(piece)
	return w.out.Len() <= api.MaxText
}
