package valuetext_test

import (
	"encoding/json"
	"fmt"
	"math/rand"
	"regexp"
	"slices"
	"strconv"
	"strings"

	"robotics/api"
	"robotics/lexer"
	"robotics/schema"
	"robotics/value"
)

// The oracle: the chapter's definition of the sequences that fit, as a grammar;
// the meaning of such a sequence, by way of encoding/json; and the text of a
// value.

// symbol is a part of the grammar: a token that it accepts, or one of several
// sequences of symbols.
type symbol struct {
	accepts      func(token api.Token) bool
	spell        func(r *rand.Rand) string
	alternatives func() [][]symbol
}

// exact is the symbol of a mark or a name.
func exact(kind int, text string) symbol {
	return symbol{
		accepts: func(token api.Token) bool { return token.Kind == kind && token.Text == text },
		spell:   func(*rand.Rand) string { return text },
	}
}

func mark(text string) symbol { return exact(api.TkMark, text) }

// anyOf is the symbol of all tokens of a kind.
func anyOf(kind int, spell func(r *rand.Rand) string) symbol {
	return symbol{
		accepts: func(token api.Token) bool { return token.Kind == kind },
		spell:   spell,
	}
}

// oneOf is the symbol of one of several names.
func oneOf(names ...string) symbol {
	return symbol{alternatives: func() [][]symbol {
		var all [][]symbol
		for _, name := range names {
			all = append(all, []symbol{exact(api.TkName, name)})
		}
		return all
	}}
}

// valueOf is the symbol of the sequences that fit a type.
func valueOf(s api.Schema, t api.Type) symbol {
	switch t.Kind {
	case api.KBool:
		return oneOf("true", "false")
	case api.KInt, api.KUint:
		return anyOf(api.TkNumber, spelledNumber)
	case api.KText:
		return anyOf(api.TkString, func(r *rand.Rand) string { return quoted(pick(r, "", "a", "abc", "abcdef", `"`, `\`, " #")) })
	case api.KEnum:
		x, _ := schema.Enum(s, t.Name)
		return oneOf(x.Names...)
	case api.KList:
		return symbol{alternatives: func() [][]symbol {
			return [][]symbol{{mark("["), mark("]")}, {mark("["), valueOf(s, t.Elem[0]), moreElements(s, t.Elem[0])}}
		}}
	}
	x, _ := schema.Struct(s, t.Name)
	return symbol{alternatives: func() [][]symbol {
		return [][]symbol{{mark("{"), mark("}")}, {mark("{"), oneField(s, x.Fields)}}
	}}
}

// moreElements is the symbol of what follows an element of a list.
func moreElements(s api.Schema, t api.Type) symbol {
	return symbol{alternatives: func() [][]symbol {
		return [][]symbol{{mark("]")}, {mark(","), valueOf(s, t), moreElements(s, t)}}
	}}
}

// moreFields is the symbol of what follows a field, if these are left. A comma
// fits there also if none are: then it is the next token that does not.
func moreFields(s api.Schema, left []api.Field) symbol {
	return symbol{alternatives: func() [][]symbol {
		return [][]symbol{{mark("}")}, {mark(","), oneField(s, left)}}
	}}
}

// oneField is the symbol of one of the fields that are left, and of what
// follows it.
func oneField(s api.Schema, left []api.Field) symbol {
	return symbol{alternatives: func() [][]symbol {
		var all [][]symbol
		for i, f := range left {
			all = append(all, []symbol{exact(api.TkName, f.Name), mark("="), valueOf(s, f.Type), moreFields(s, left[i+1:])})
		}
		return all
	}}
}

// isPossible reports whether there are tokens for a sequence.
func isPossible(sequence []symbol) bool {
	return !slices.ContainsFunc(sequence, func(x symbol) bool { return x.alternatives != nil && len(x.alternatives()) == 0 })
}

// following returns what may be expected behind a token, if one of the
// expected sequences of symbols begins with it.
func following(expected [][]symbol, token api.Token) [][]symbol {
	var next [][]symbol
	for _, sequence := range expected {
		if len(sequence) == 0 {
			continue
		}
		first, rest := sequence[0], sequence[1:]
		if first.alternatives == nil {
			if first.accepts(token) {
				next = append(next, rest)
			}
			continue
		}
		var replaced [][]symbol
		for _, alternative := range first.alternatives() {
			replaced = append(replaced, slices.Concat(alternative, rest))
		}
		next = append(next, following(replaced, token)...)
	}
	return next
}

// misfit returns the index of the first token that does not fit a type, or -1.
func misfit(s api.Schema, t api.Type, tokens []api.Token) int {
	expected := [][]symbol{{valueOf(s, t), exact(api.TkEnd, "")}}
	for i, token := range tokens {
		expected = following(expected, token)
		if len(expected) == 0 {
			return i
		}
	}
	return -1
}

// meaning returns the value that tokens mean which fit a type.
func meaning(s api.Schema, t api.Type, tokens []api.Token) api.Value {
	text := ""
	for _, token := range tokens {
		switch token.Kind {
		case api.TkNumber:
			text += fmt.Sprint(token.N)
		case api.TkName, api.TkString:
			word, _ := json.Marshal(token.Text)
			text += string(word)
		case api.TkMark:
			text += strings.ReplaceAll(token.Text, "=", ":")
		}
	}
	d := json.NewDecoder(strings.NewReader(text))
	d.UseNumber()
	var x any
	if err := d.Decode(&x); err != nil {
		panic(text + ": " + err.Error())
	}
	return decoded(s, t, x)
}

// decoded returns the value of a type that was decoded from JSON.
func decoded(s api.Schema, t api.Type, x any) api.Value {
	v := api.Value{Kind: t.Kind}
	switch x := x.(type) {
	case json.Number:
		v.N, _ = strconv.ParseInt(x.String(), 10, 64)
	case string:
		if t.Kind == api.KText {
			v.S = x
		} else {
			v.N = numbered(s, t)[x]
		}
	case []any:
		for _, element := range x {
			v.L = append(v.L, decoded(s, t.Elem[0], element))
		}
	case map[string]any:
		y, _ := schema.Struct(s, t.Name)
		for _, f := range y.Fields {
			if z, ok := x[f.Name]; ok {
				v.F = append(v.F, entry(f.Number, decoded(s, f.Type, z)))
			}
		}
	}
	return v
}

// numbered returns the numbers of the names of a boolean or an enumeration.
func numbered(s api.Schema, t api.Type) map[string]int64 {
	if t.Kind == api.KBool {
		return map[string]int64{"false": 0, "true": 1}
	}
	numbers := map[string]int64{}
	x, _ := schema.Enum(s, t.Name)
	for i, name := range x.Names {
		numbers[name] = int64(x.Numbers[i])
	}
	return numbers
}

// permitted asks schema.Check about a field with this type, in a valid schema
// with fewer than 16 definitions.
func permitted(s api.Schema, t api.Type) bool {
	s.Structs = append(slices.Clone(s.Structs), structure("Question", field(1, "x", t)))
	return schema.Check(s) != api.ErrType
}

// parse is the oracle's Parse, for a valid schema with fewer than 16
// definitions.
func parse(s api.Schema, t api.Type, text string) (api.Value, api.Errno, int) {
	if !permitted(s, t) {
		return api.Value{}, api.ErrType, 0
	}
	tokens, e, at := lexer.Scan(text)
	if e != api.OK {
		return api.Value{}, e, at
	}
	if i := misfit(s, t, tokens); i >= 0 {
		return api.Value{}, api.ErrFormat, tokens[i].At
	}
	v := meaning(s, t, tokens)
	if e := value.Check(s, t, v); e != api.OK {
		return api.Value{}, e, 0
	}
	return v, api.OK, 0
}

func quoted(s string) string {
	return `"` + strings.NewReplacer(`"`, `\"`, `\`, `\\`).Replace(s) + `"`
}

// spelled is the oracle's text of a value of a type, however long.
func spelled(s api.Schema, t api.Type, v api.Value) string {
	switch t.Kind {
	case api.KBool, api.KEnum:
		for name, n := range numbered(s, t) {
			if n == v.N {
				return name
			}
		}
	case api.KInt, api.KUint:
		return fmt.Sprint(v.N)
	case api.KText:
		return quoted(v.S)
	case api.KList:
		var all []string
		for _, x := range v.L {
			all = append(all, spelled(s, t.Elem[0], x))
		}
		return "[" + strings.Join(all, ", ") + "]"
	}
	var all []string
	x, _ := schema.Struct(s, t.Name)
	for _, f := range v.F {
		y, _ := schema.FieldOf(x, f.Number)
		all = append(all, y.Name+" = "+spelled(s, y.Type, f.Value))
	}
	return "{" + strings.Join(all, ", ") + "}"
}

var printable = regexp.MustCompile(`^[ -~]{0,200}$`)

// format is the oracle's Format, for a valid schema.
func format(s api.Schema, t api.Type, v api.Value) string {
	if value.Check(s, t, v) != api.OK {
		return ""
	}
	v = renewed(v)
	for _, x := range parts(&v) {
		if !printable.MatchString(x.S) {
			return ""
		}
	}
	if text := spelled(s, t, v); len(text) <= 4000 {
		return text
	}
	return ""
}
