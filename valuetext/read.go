package valuetext

import (
	"slices"

	"robotics/api"
	"robotics/lexer"
	"robotics/schema"
)

// reader reads values of the types of a valid schema. Its methods report
// whether the tokens fit; if not, it stays before the first one that does not,
// and the value is of no use.
type reader struct {
	schema api.Schema
	tokens *lexer.Scanner
}

func (r reader) read(t api.Type) (api.Value, bool) {
	return notationOf(t.Kind).read(r, t)
}

func (r reader) name(t api.Type) (api.Value, bool) {
	x := namesOf(r.schema, t)
	i := slices.IndexFunc(x.Names, r.tokens.Word)
	if i < 0 {
		return api.Value{}, false
	}
	return api.Value{Kind: t.Kind, N: int64(x.Numbers[i])}, true
}

func (r reader) number(t api.Type) (api.Value, bool) {
	token, ok := r.take(api.TkNumber)
	return api.Value{Kind: t.Kind, N: token.N}, ok
}

func (r reader) text(t api.Type) (api.Value, bool) {
	token, ok := r.take(api.TkString)
	return api.Value{Kind: t.Kind, S: token.Text}, ok
}

func (r reader) list(t api.Type) (api.Value, bool) {
	v := api.Value{Kind: t.Kind}
	ok := r.sequence("[", "]", func() bool {
		x, ok := r.read(t.Elem[0])
		v.L = append(v.L, x)
		return ok
	})
	return v, ok
}

func (r reader) structure(t api.Type) (api.Value, bool) {
	x, _ := schema.Struct(r.schema, t.Name)
	v := api.Value{Kind: t.Kind}
	// The numbers of the fields ascend, so the field that comes next is one of
	// those behind the last one.
	behind := x.Fields
	ok := r.sequence("{", "}", func() bool {
		i := slices.IndexFunc(behind, func(f api.Field) bool { return r.tokens.Word(f.Name) })
		if i < 0 || !r.tokens.Mark("=") {
			return false
		}
		f := behind[i]
		behind = behind[i+1:]
		y, ok := r.read(f.Type)
		v.F = append(v.F, api.Entry{Number: f.Number, Value: y})
		return ok
	})
	return v, ok
}

// sequence reads any number of parts between two marks, separated by commas.
func (r reader) sequence(opening, closing string, part func() bool) bool {
	if !r.tokens.Mark(opening) {
		return false
	}
	if r.tokens.Mark(closing) {
		return true
	}
	for part() {
		if !r.tokens.Mark(",") {
			return r.tokens.Mark(closing)
		}
	}
	return false
}

// take moves past the next token and returns it, if it is of this kind.
func (r reader) take(kind int) (api.Token, bool) {
	if r.tokens.Peek().Kind != kind {
		return api.Token{}, false
	}
	return r.tokens.Next(), true
}
