package schematext

import (
	"robotics/api"
	"robotics/lexer"
)

// reader reads tokens by the productions of the grammar, one method each. It
// stays before the first token that does not fit; what its methods return from
// then on is of no use.
type reader struct {
	tokens *lexer.Scanner
	stuck  bool // whether the next token does not fit
}

// readAll returns what a production reads from a text, up to its end, or an
// error and its offset.
func readAll[T any](s string, production func(*reader) T) (T, api.Errno, int) {
	var none T
	tokens, e, at := lexer.NewScanner(s)
	if e != api.OK {
		return none, e, at
	}
	r := &reader{tokens: tokens}
	read := production(r)
	r.take(isEnd)
	if r.stuck {
		return none, api.ErrFormat, tokens.Peek().At
	}
	return read, api.OK, 0
}

func (r *reader) schema() api.Schema {
	r.word("version")
	s := api.Schema{Version: r.number()}
	r.mark(";")
	for {
		switch {
		case r.hasWord("enum"):
			s.Enums = append(s.Enums, r.enum())
		case r.hasWord("struct"):
			s.Structs = append(s.Structs, r.structure())
		default:
			return s
		}
	}
}

// enum reads an enumeration whose first word was read.
func (r *reader) enum() api.Enum {
	x := api.Enum{Name: r.typeName()}
	r.mark("{")
	for more := true; more; more = r.hasMark(",") {
		x.Names = append(x.Names, r.name())
		r.mark("=")
		x.Numbers = append(x.Numbers, r.number())
	}
	r.mark("}")
	return x
}

// structure reads a struct whose first word was read.
func (r *reader) structure() api.Struct {
	t := api.Struct{Name: r.typeName()}
	r.mark("{")
	for !r.stuck && !r.hasMark("}") {
		t.Fields = append(t.Fields, r.field())
	}
	return t
}

func (r *reader) field() api.Field {
	f := api.Field{Number: r.number()}
	f.Name = r.name()
	r.mark(":")
	f.Type = r.typed()
	f.Optional = r.hasMark("?")
	r.mark(";")
	return f
}

// typed reads a type. Whether a name is that of an enumeration is not known
// here, so it counts as that of a struct.
func (r *reader) typed() api.Type {
	t, _ := beginType(r.take(beginsType).Text)
	switch t.Kind {
	case api.KText:
		t.Size = r.size()
	case api.KList:
		t.Size = r.size()
		r.word("of")
		t.Elem = []api.Type{r.typed()}
	}
	return t
}

func (r *reader) size() int {
	r.mark("[")
	size := r.take(isSize).N
	r.mark("]")
	return int(size)
}

func (r *reader) name() string {
	return r.take(isName).Text
}

func (r *reader) typeName() string {
	return r.take(namesType).Text
}

func (r *reader) number() int {
	return int(r.take(isNumber).N)
}

func (r *reader) word(text string) {
	r.stuck = !r.hasWord(text)
}

func (r *reader) mark(text string) {
	r.stuck = !r.hasMark(text)
}

// hasWord moves past the next token if it is this name, which need not be.
func (r *reader) hasWord(text string) bool {
	return !r.stuck && r.tokens.Word(text)
}

// hasMark moves past the next token if it is this mark, which need not be.
func (r *reader) hasMark(text string) bool {
	return !r.stuck && r.tokens.Mark(text)
}

// take moves past the next token and returns it, if it fits.
func (r *reader) take(fits func(api.Token) bool) api.Token {
	if r.stuck || !fits(r.tokens.Peek()) {
		r.stuck = true
		return api.Token{}
	}
	return r.tokens.Next()
}

func isEnd(token api.Token) bool {
	return token.Kind == api.TkEnd
}

func isName(token api.Token) bool {
	return token.Kind == api.TkName
}

func isNumber(token api.Token) bool {
	return token.Kind == api.TkNumber
}

func isSize(token api.Token) bool {
	return isNumber(token) && token.N >= 0
}

func namesType(token api.Token) bool {
	return isName(token) && isTypeName(token.Text)
}

func beginsType(token api.Token) bool {
	_, ok := beginType(token.Text)
	return isName(token) && ok
}
