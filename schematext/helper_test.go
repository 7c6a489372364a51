package schematext_test

import (
	"fmt"
	"math/rand"
	"regexp"
	"slices"
	"strconv"
	"strings"
	"testing"

	"robotics/api"
	"robotics/lexer"
	"robotics/schema"
	"robotics/schematext"
)

const (
	least = -1 << 63
	most  = 1<<63 - 1
)

// Types, fields and definitions.

func boolean() api.Type { return api.Type{Kind: api.KBool} }

func integer(size int) api.Type { return api.Type{Kind: api.KInt, Size: size} }

func unsigned(size int) api.Type { return api.Type{Kind: api.KUint, Size: size} }

func text(size int) api.Type { return api.Type{Kind: api.KText, Size: size} }

func structType(name string) api.Type { return api.Type{Kind: api.KStruct, Name: name} }

func enumType(name string) api.Type { return api.Type{Kind: api.KEnum, Name: name} }

func list(size int, elem ...api.Type) api.Type {
	return api.Type{Kind: api.KList, Size: size, Elem: elem}
}

// lists returns a type within so many lists.
func lists(levels int, t api.Type) api.Type {
	for range levels {
		t = list(1, t)
	}
	return t
}

func field(number int, name string, t api.Type) api.Field {
	return api.Field{Number: number, Name: name, Type: t}
}

func optional(number int, name string, t api.Type) api.Field {
	return api.Field{Number: number, Name: name, Type: t, Optional: true}
}

func structure(name string, fields ...api.Field) api.Struct {
	return api.Struct{Name: name, Fields: fields}
}

// enum returns an enumeration with these names, numbered from 0 on.
func enum(name string, names ...string) api.Enum {
	x := api.Enum{Name: name, Names: names}
	for i := range names {
		x.Numbers = append(x.Numbers, i)
	}
	return x
}

func structs(all ...api.Struct) api.Schema {
	return api.Schema{Version: 1, Structs: all}
}

func enums(all ...api.Enum) api.Schema {
	return api.Schema{Version: 1, Enums: all}
}

// The canonical text of the chapter, and its schema.

const canonical = `version 3;
enum Mode { idle = 0, run = 1 }
struct Pose {
  1 x: int32;
  2 name: text[16];
  3 tags: list[4] of int8;
  4 mode: Mode?;
}
`

func example() api.Schema {
	return api.Schema{
		Version: 3,
		Enums:   []api.Enum{enum("Mode", "idle", "run")},
		Structs: []api.Struct{structure("Pose",
			field(1, "x", integer(32)),
			field(2, "name", text(16)),
			field(3, "tags", list(4, integer(8))),
			optional(4, "mode", enumType("Mode")),
		)},
	}
}

// Comparisons: empty lists are equal, whether nil or not.

func same(a, b api.Schema) bool {
	return a.Version == b.Version && slices.EqualFunc(a.Enums, b.Enums, sameEnum) && slices.EqualFunc(a.Structs, b.Structs, sameStruct)
}

func sameEnum(a, b api.Enum) bool {
	return a.Name == b.Name && slices.Equal(a.Names, b.Names) && slices.Equal(a.Numbers, b.Numbers)
}

func sameStruct(a, b api.Struct) bool {
	return a.Name == b.Name && slices.EqualFunc(a.Fields, b.Fields, sameField)
}

func sameField(a, b api.Field) bool {
	return a.Number == b.Number && a.Name == b.Name && a.Optional == b.Optional && sameType(a.Type, b.Type)
}

func sameType(a, b api.Type) bool {
	return a.Kind == b.Kind && a.Size == b.Size && a.Name == b.Name && slices.EqualFunc(a.Elem, b.Elem, sameType)
}

// parsed checks that Parse returns the schema, or the error with its offset
// and nothing else.
func parsed(t *testing.T, s string, want api.Schema, e api.Errno, at int) {
	t.Helper()
	if got, gotE, gotAt := schematext.Parse(s); !same(got, want) || gotE != e || gotAt != at {
		t.Errorf("Parse(%q) = %+v, %v, %d, want %+v, %v, %d", s, got, gotE, gotAt, want, e, at)
	}
}

// refused checks that Parse returns the error with its offset.
func refused(t *testing.T, s string, e api.Errno, at int) {
	t.Helper()
	parsed(t, s, api.Schema{}, e, at)
}

// parsedType checks that ParseType returns the type, or the error with its
// offset and nothing else.
func parsedType(t *testing.T, s string, want api.Type, e api.Errno, at int) {
	t.Helper()
	if got, gotE, gotAt := schematext.ParseType(s); !sameType(got, want) || gotE != e || gotAt != at {
		t.Errorf("ParseType(%q) = %+v, %v, %d, want %+v, %v, %d", s, got, gotE, gotAt, want, e, at)
	}
}

func refusedType(t *testing.T, s string, e api.Errno, at int) {
	t.Helper()
	parsedType(t, s, api.Type{}, e, at)
}

func formatted(t *testing.T, s api.Schema, want string) {
	t.Helper()
	if got := schematext.Format(s); got != want {
		t.Errorf("Format(%+v) = %q, want %q", s, got, want)
	}
}

func written(t *testing.T, x api.Type, want string) {
	t.Helper()
	if got := schematext.Type(x); got != want {
		t.Errorf("Type(%+v) = %q, want %q", x, got, want)
	}
}

// The oracle.

// productions are the alternatives of the symbols of the grammar that are not
// tokens: repetitions are symbols of their own. Size is a number that is not
// negative.
var productions = map[string][]string{
	"Schema":      {"version Number ; Definitions"},
	"Definitions": {"end", "Enum Definitions", "Struct Definitions"},
	"Enum":        {"enum TypeName { Name = Number Names"},
	"Names":       {"}", ", Name = Number Names"},
	"Struct":      {"struct TypeName { Fields"},
	"Fields":      {"}", "Field Fields"},
	"Field":       {"Number Name : Type ;", "Number Name : Type ? ;"},
	"OneType":     {"Type end"},
	"Type": {
		"bool", "int8", "int16", "int32", "int64", "uint8", "uint16", "uint32",
		"text [ Size ]", "list [ Size ] of Type", "TypeName",
	},
}

// accepts reports whether a token is what a symbol of the grammar stands for.
func accepts(symbol string, token api.Token) bool {
	switch symbol {
	case "end":
		return token.Kind == api.TkEnd
	case "Name":
		return token.Kind == api.TkName
	case "TypeName":
		return token.Kind == api.TkName && properTypeName.MatchString(token.Text)
	case "Number":
		return token.Kind == api.TkNumber
	case "Size":
		return token.Kind == api.TkNumber && token.N >= 0
	}
	return (token.Kind == api.TkName || token.Kind == api.TkMark) && token.Text == symbol
}

// following returns what may be expected behind a token, if one of the
// expected sequences of symbols begins with it.
func following(expected []string, token api.Token) []string {
	var next []string
	for _, sequence := range expected {
		symbol, rest, _ := strings.Cut(sequence, " ")
		var replaced []string
		for _, production := range productions[symbol] {
			replaced = append(replaced, strings.TrimSpace(production+" "+rest))
		}
		if len(replaced) > 0 {
			next = append(next, following(replaced, token)...)
		} else if accepts(symbol, token) {
			next = append(next, rest)
		}
	}
	return next
}

// misfit returns the index of the first token that cannot continue a text of
// the grammar that begins with a symbol, or -1.
func misfit(symbol string, tokens []api.Token) int {
	expected := []string{symbol}
	for i, token := range tokens {
		expected = following(expected, token)
		if len(expected) == 0 {
			return i
		}
	}
	return -1
}

var (
	properTypeName = regexp.MustCompile(`^[A-Z][a-zA-Z0-9_]{0,15}$`)
	aVersion       = regexp.MustCompile(`^version (-?\d+) ;`)
	aDefinition    = regexp.MustCompile(`(enum|struct) (\w+) \{ ([^}]*)\}`)
	aPair          = regexp.MustCompile(`(\w+) = (-?\d+) `)
	aField         = regexp.MustCompile(`(-?\d+) (\w+) : ([^;?]*) (\? )?; `)
	aText          = regexp.MustCompile(`^text \[ (\d+) \]$`)
	aList          = regexp.MustCompile(`^list \[ (\d+) \] of (.*)$`)
)

func decimal(s string) int {
	n, err := strconv.Atoi(s)
	if err != nil {
		panic(err)
	}
	return n
}

// meaning returns the schema that tokens mean which fit the grammar, printed
// with single spaces.
func meaning(tokens string) api.Schema {
	s := api.Schema{Version: decimal(aVersion.FindStringSubmatch(tokens)[1])}
	definitions := aDefinition.FindAllStringSubmatch(tokens, -1)
	modes := map[string]bool{}
	for _, d := range definitions {
		if d[1] == "enum" {
			modes[d[2]] = true
			x := api.Enum{Name: d[2]}
			for _, pair := range aPair.FindAllStringSubmatch(d[3], -1) {
				x.Names, x.Numbers = append(x.Names, pair[1]), append(x.Numbers, decimal(pair[2]))
			}
			s.Enums = append(s.Enums, x)
		}
	}
	for _, d := range definitions {
		if d[1] == "struct" {
			x := api.Struct{Name: d[2]}
			for _, f := range aField.FindAllStringSubmatch(d[3], -1) {
				x.Fields = append(x.Fields, api.Field{Number: decimal(f[1]), Name: f[2], Type: meaningOfType(f[3], modes), Optional: f[4] != ""})
			}
			s.Structs = append(s.Structs, x)
		}
	}
	return s
}

// meaningOfType returns the type that tokens mean which fit the grammar, if
// these are the names of the enumerations.
func meaningOfType(tokens string, modes map[string]bool) api.Type {
	for _, x := range plain() {
		if spelled(x) == tokens {
			return x
		}
	}
	if modes[tokens] {
		return enumType(tokens)
	}
	if found := aText.FindStringSubmatch(tokens); found != nil {
		return text(decimal(found[1]))
	}
	if found := aList.FindStringSubmatch(tokens); found != nil {
		return list(decimal(found[1]), meaningOfType(found[2], modes))
	}
	return structType(tokens)
}

// plain returns the types that are written as one word, apart from names.
func plain() []api.Type {
	return []api.Type{boolean(), integer(8), integer(16), integer(32), integer(64), unsigned(8), unsigned(16), unsigned(32)}
}

// parse is the oracle's Parse.
func parse(s string) (api.Schema, api.Errno, int) {
	tokens, e, at := lexer.Scan(s)
	if e != api.OK {
		return api.Schema{}, e, at
	}
	if i := misfit("Schema", tokens); i >= 0 {
		return api.Schema{}, api.ErrFormat, tokens[i].At
	}
	x := meaning(lexer.Print(tokens))
	if e := schema.Check(x); e != api.OK {
		return api.Schema{}, e, 0
	}
	return x, api.OK, 0
}

// parseType is the oracle's ParseType.
func parseType(s string) (api.Type, api.Errno, int) {
	tokens, e, at := lexer.Scan(s)
	if e != api.OK {
		return api.Type{}, e, at
	}
	if i := misfit("OneType", tokens); i >= 0 {
		return api.Type{}, api.ErrFormat, tokens[i].At
	}
	printed := lexer.Print(tokens)
	if strings.Count(printed, "of ") > 6 {
		return api.Type{}, api.ErrDepth, 0
	}
	return meaningOfType(printed, nil), api.OK, 0
}

// format is the oracle's canonical text, of any schema.
func format(s api.Schema) string {
	lines := []string{fmt.Sprintf("version %d;", s.Version)}
	for _, x := range s.Enums {
		var names []string
		for i := range min(len(x.Names), len(x.Numbers)) {
			names = append(names, fmt.Sprintf("%s = %d", x.Names[i], x.Numbers[i]))
		}
		lines = append(lines, fmt.Sprintf("enum %s { %s }", x.Name, strings.Join(names, ", ")))
	}
	for _, x := range s.Structs {
		lines = append(lines, fmt.Sprintf("struct %s {", x.Name))
		for _, f := range x.Fields {
			lines = append(lines, fmt.Sprintf("  %d %s: %s%s;", f.Number, f.Name, spelled(f.Type), map[bool]string{true: "?"}[f.Optional]))
		}
		lines = append(lines, "}")
	}
	return strings.Join(lines, "\n") + "\n"
}

// spelled is the oracle's text of a type, of any type.
func spelled(t api.Type) string {
	switch t.Kind {
	case api.KBool:
		return "bool"
	case api.KInt:
		return fmt.Sprintf("int%d", t.Size)
	case api.KUint:
		return fmt.Sprintf("uint%d", t.Size)
	case api.KText:
		return fmt.Sprintf("text[%d]", t.Size)
	case api.KList:
		if len(t.Elem) == 0 {
			return fmt.Sprintf("list[%d] of ", t.Size)
		}
		return fmt.Sprintf("list[%d] of %s", t.Size, spelled(t.Elem[0]))
	}
	return t.Name
}

// writable is the oracle's rule of which types can be written.
func writable(t api.Type) bool {
	return writableWithin(t, 0)
}

func writableWithin(t api.Type, lists int) bool {
	noSize, noName, noElem := t.Size == 0, t.Name == "", len(t.Elem) == 0
	switch t.Kind {
	case api.KBool:
		return noSize && noName && noElem
	case api.KInt:
		return slices.Contains([]int{8, 16, 32, 64}, t.Size) && noName && noElem
	case api.KUint:
		return slices.Contains([]int{8, 16, 32}, t.Size) && noName && noElem
	case api.KText:
		return t.Size >= 0 && noName && noElem
	case api.KList:
		return t.Size >= 0 && noName && len(t.Elem) == 1 && lists < 6 && writableWithin(t.Elem[0], lists+1)
	case api.KStruct, api.KEnum:
		return noSize && properTypeName.MatchString(t.Name) && noElem
	}
	return false
}

// Random schemas.

func pick[T any](r *rand.Rand, of ...T) T {
	return of[r.Intn(len(of))]
}

func typeNames() []string {
	return []string{"A", "A0", "A_", "Aa", "Abcdefghijklmnop", "B", "B1", "Bool", "Enum", "Int8", "List", "M", "Of", "Text", "Version", "Z"}
}

// words returns names that the grammar uses itself, and others, all of them
// different.
func words() []string {
	return []string{"version", "enum", "struct", "bool", "int8", "int64", "uint32", "text", "list", "of", "a", "b0", "A", "Mode", "z_9", "abcdefghijklmnop", "end", "int7"}
}

// randomSchema returns a schema that is most often valid.
func randomSchema(r *rand.Rand) api.Schema {
	names := typeNames()
	r.Shuffle(len(names), func(i, k int) { names[i], names[k] = names[k], names[i] })
	s := api.Schema{Version: 1 + r.Intn(999)}
	for _, name := range names[:r.Intn(min(1+r.Intn(16), 8)+1)] {
		if r.Intn(3) == 0 {
			s.Enums = append(s.Enums, randomEnum(r, name))
			continue
		}
		// Only what was chosen before is used, so that there are no cycles.
		s.Structs = append(s.Structs, randomStruct(r, name, s))
	}
	r.Shuffle(len(s.Enums), func(i, k int) { s.Enums[i], s.Enums[k] = s.Enums[k], s.Enums[i] })
	r.Shuffle(len(s.Structs), func(i, k int) { s.Structs[i], s.Structs[k] = s.Structs[k], s.Structs[i] })
	return s
}

// randomNames returns a few names, and numbers that ascend from first on.
func randomNames(r *rand.Rand, first int) ([]string, []int) {
	names, numbers := words(), []int{first}
	r.Shuffle(len(names), func(i, k int) { names[i], names[k] = names[k], names[i] })
	for len(numbers) < 16 && r.Intn(3) > 0 {
		numbers = append(numbers, numbers[len(numbers)-1]+1+r.Intn(7))
	}
	return names[:len(numbers)], numbers
}

func randomEnum(r *rand.Rand, name string) api.Enum {
	names, numbers := randomNames(r, 0)
	return api.Enum{Name: name, Names: names, Numbers: numbers}
}

func randomStruct(r *rand.Rand, name string, s api.Schema) api.Struct {
	names, numbers := randomNames(r, 1+r.Intn(5))
	x := api.Struct{Name: name}
	for i := range numbers[:len(numbers)-r.Intn(2)] {
		x.Fields = append(x.Fields, api.Field{Number: numbers[i], Name: names[i], Type: randomType(r, s), Optional: r.Intn(3) == 0})
	}
	return x
}

// randomType returns a valid type of a schema.
func randomType(r *rand.Rand, s api.Schema) api.Type {
	switch n := r.Intn(10); {
	case n < 2 && len(s.Structs) > 0:
		return structType(pick(r, s.Structs...).Name)
	case n < 4 && len(s.Enums) > 0:
		return enumType(pick(r, s.Enums...).Name)
	case n < 6:
		return list(1+r.Intn(32), randomType(r, s))
	case n == 6:
		return text(1 + r.Intn(2000))
	}
	return pick(r, plain()...)
}

// Texts.

// samples returns texts of schemas, most of them such as Parse accepts.
func samples() []string {
	return []string{
		"version 1;",
		canonical,
		"version 2; # remark\nstruct A { 1 b: B; } enum B { c = 0 }",
		"version 999;enum A{a=0,b=5,c=127}struct B{}struct C{127 z:list[32]of text[2000]?;}",
		"version 7;\nstruct B { 1 a: A; 2 m: list[1] of list[2] of M?; }\nenum M { version = 0, enum = 1, struct = 2 }\nstruct A { 1 of: uint8; 2 list: uint16; 3 text: uint32; }",
		"version 5; struct Version { 1 version: bool; 2 enum: int8; 3 struct: int16; 4 list: int32; 5 of: int64; }",
		"version 1; struct A { 1 b: B; }",
		"version -1; enum A { a = -1, a = 300 } struct A { -5 a: list[0] of text[0]?; -5 a: A; }",
		"version 4; struct A { 1 a: list[1] of list[1] of list[1] of list[1] of list[1] of A?; }",
		"version 4; struct A { 1 a: list[1] of list[1] of list[1] of list[1] of list[1] of list[1] of bool; }",
	}
}

// vocabulary returns tokens as they are written.
func vocabulary() []string {
	return []string{
		"version", "enum", "struct", "bool", "int8", "int64", "uint32", "text", "list", "of", "a", "A", "Mode", "int7", "uint64", "Bool",
		"{", "}", "[", "]", ":", ";", ",", "=", "?", "(", ".", "!",
		"-9223372036854775808", "-1", "0", "1", "2", "8", "127", "128", "999", "1000", "2000", "9223372036854775807",
		`"a"`, `"version"`, `";"`, `""`,
	}
}

// vary calls check with a text after each change of one token: left out, twice,
// or another one in its place or before it. Tokens have single spaces between.
func vary(s string, check func(s string)) {
	tokens, _, _ := lexer.Scan(s)
	var parts []string
	for _, token := range tokens[:len(tokens)-1] {
		parts = append(parts, lexer.Print([]api.Token{token}))
	}
	for i := range len(parts) + 1 {
		for _, word := range vocabulary() {
			check(strings.Join(slices.Insert(slices.Clone(parts), i, word), " "))
			if i < len(parts) {
				changed := slices.Clone(parts)
				changed[i] = word
				check(strings.Join(changed, " "))
			}
		}
		if i < len(parts) {
			check(strings.Join(slices.Delete(slices.Clone(parts), i, i+1), " "))
			check(strings.Join(slices.Insert(slices.Clone(parts), i, parts[i]), " "))
		}
	}
}

// forTexts calls check with texts: the samples, their parts up to each byte,
// and what vary and the grammar make, and random ones.
func forTexts(check func(s string)) {
	check("")
	for _, s := range samples() {
		vary(s, check)
		for i := range len(s) + 1 {
			check(s[:i])
			check(s[i:])
		}
	}
	r := rand.New(rand.NewSource(1))
	for range 3000 {
		check(laidOut(r, grown(r, "Schema")))
		check(format(randomSchema(r)))
		check(randomBytes(r, r.Intn(40)))
	}
}

// forTypes calls check with texts of types, and others.
func forTypes(check func(s string)) {
	for _, s := range []string{"", "bool", "text[5]", "list[3] of Mode", "list [0] of\nlist[9223372036854775807]of # remark\ntext[0]", strings.Repeat("list[1] of ", 6) + "A", strings.Repeat("list[1] of ", 7) + "A"} {
		vary(s, check)
		for i := range len(s) + 1 {
			check(s[:i])
			check(s[i:])
		}
	}
	r := rand.New(rand.NewSource(2))
	for range 5000 {
		check(laidOut(r, grown(r, "OneType")))
		check(randomBytes(r, r.Intn(20)))
	}
}

// grown returns the tokens of a random text of the grammar that a symbol
// stands for. A few of them are others.
func grown(r *rand.Rand, symbol string) []string {
	var tokens []string
	for left := []string{symbol}; len(left) > 0; {
		symbol, left = left[0], left[1:]
		if all := productions[symbol]; len(all) > 0 {
			left = append(strings.Fields(pick(r, all...)), left...)
			continue
		}
		if r.Intn(300) == 0 {
			symbol = pick(r, vocabulary()...)
		}
		tokens = append(tokens, spell(r, symbol)...)
	}
	return tokens
}

// spell returns a token that a symbol of the grammar stands for.
func spell(r *rand.Rand, symbol string) []string {
	switch symbol {
	case "end":
		return nil
	case "Name":
		return []string{pick(r, words()...)}
	case "TypeName":
		return []string{pick(r, typeNames()...)}
	case "Number":
		return []string{pick(r, "0", "1", "2", "3", "5", "-1", "127", "128", "1000", strconv.Itoa(r.Intn(128)), strconv.Itoa(r.Intn(128)))}
	case "Size":
		return []string{pick(r, "0", "1", "2", "32", "33", "2000", "9223372036854775807")}
	}
	return []string{symbol}
}

// laidOut returns a text of tokens with random white space and remarks, and
// with none where none is required.
func laidOut(r *rand.Rand, tokens []string) string {
	text := separation(r, false)
	for i, token := range tokens {
		if i > 0 {
			text += separation(r, isWord(tokens[i-1]) && isWord(token))
		}
		text += token
	}
	return text + separation(r, false)
}

// isWord reports whether a token is a name or a number.
func isWord(token string) bool {
	return !strings.Contains(`"{}[]:;,=?(.!`, token[:1])
}

func separation(r *rand.Rand, required bool) string {
	if !required && r.Intn(2) == 0 {
		return ""
	}
	return pick(r, " ", " ", "\n", "\t", "  \n\t ", "# remark\n", " # } ; \"\xff\n\n#\n ")
}

// randomBytes returns so many bytes, most of them such as texts have.
func randomBytes(r *rand.Rand, length int) string {
	const bytes = "version 1;enum A{a=0,b=1}struct B{1 x:list[2]of text[3]?;}# \n\t\"\\-_\x00\xff"
	s := make([]byte, length)
	for i := range s {
		s[i] = bytes[r.Intn(len(bytes))]
	}
	if r.Intn(2) == 0 {
		return "version 1;" + string(s)
	}
	return string(s)
}
