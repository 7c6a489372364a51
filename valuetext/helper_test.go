package valuetext_test

import (
	"fmt"
	"math/rand"
	"slices"
	"strconv"
	"strings"
	"testing"

	"robotics/api"
	"robotics/lexer"
	"robotics/schema"
	"robotics/valuetext"
)

const (
	least = -1 << 63
	most  = 1<<63 - 1
)

// Types and definitions.

func boolean() api.Type { return api.Type{Kind: api.KBool} }

func integer(size int) api.Type { return api.Type{Kind: api.KInt, Size: size} }

func unsigned(size int) api.Type { return api.Type{Kind: api.KUint, Size: size} }

func text(size int) api.Type { return api.Type{Kind: api.KText, Size: size} }

func structType(name string) api.Type { return api.Type{Kind: api.KStruct, Name: name} }

func enumType(name string) api.Type { return api.Type{Kind: api.KEnum, Name: name} }

func list(size int, elem ...api.Type) api.Type {
	return api.Type{Kind: api.KList, Size: size, Elem: elem}
}

// lists returns a type within so many lists.
func lists(levels int, t api.Type) api.Type {
	for range levels {
		t = list(2, t)
	}
	return t
}

func field(number int, name string, t api.Type) api.Field {
	return api.Field{Number: number, Name: name, Type: t}
}

func optional(number int, name string, t api.Type) api.Field {
	return api.Field{Number: number, Name: name, Type: t, Optional: true}
}

func structure(name string, fields ...api.Field) api.Struct {
	return api.Struct{Name: name, Fields: fields}
}

// example returns the schema of most tests, with the struct of the chapter.
func example() api.Schema {
	s := api.Schema{
		Version: 1,
		Enums: []api.Enum{
			{Name: "Mode", Names: []string{"idle", "run"}, Numbers: []int{0, 3}},
			{Name: "Word", Names: []string{"true", "false", "x", "Word", "abcdefghijklmnop"}, Numbers: []int{0, 1, 5, 6, 127}},
			{Name: "Only", Names: []string{"one"}, Numbers: []int{0}},
		},
		Structs: []api.Struct{
			structure("Pose", field(1, "x", integer(8)), optional(2, "name", text(5)), field(4, "mode", enumType("Mode")), field(5, "l", list(2, boolean()))),
			structure("Arm", field(1, "pose", structType("Pose")), optional(2, "poses", list(3, structType("Pose"))), optional(50, "empty", structType("Empty")), optional(127, "words", list(2, list(2, enumType("Word"))))),
			structure("Free", optional(3, "c", integer(64)), optional(4, "b", text(2000)), optional(5, "a", boolean()), optional(6, "true", enumType("Word")), optional(7, "abcdefghijklmnop", list(32, unsigned(32)))),
			structure("Empty"),
		},
	}
	for n := range 6 {
		s.Structs = append(s.Structs, structure(fmt.Sprintf("S%d", n+1), optional(1, "next", structType(fmt.Sprintf("S%d", n+2)))))
	}
	s.Structs[len(s.Structs)-1].Fields[0].Type = text(300)
	return s
}

// Values.

func truth(n int64) api.Value { return api.Value{Kind: api.KBool, N: n} }

func number(n int64) api.Value { return api.Value{Kind: api.KInt, N: n} }

func natural(n int64) api.Value { return api.Value{Kind: api.KUint, N: n} }

func word(s string) api.Value { return api.Value{Kind: api.KText, S: s} }

func choice(n int64) api.Value { return api.Value{Kind: api.KEnum, N: n} }

func items(all ...api.Value) api.Value { return api.Value{Kind: api.KList, L: all} }

func record(all ...api.Entry) api.Value { return api.Value{Kind: api.KStruct, F: all} }

func entry(number int, v api.Value) api.Entry { return api.Entry{Number: number, Value: v} }

// nested returns a value within so many lists.
func nested(levels int, v api.Value) api.Value {
	for range levels {
		v = items(v)
	}
	return v
}

// recorded returns a value within so many structs, as those of S1 to S6 are.
func recorded(levels int, v api.Value) api.Value {
	for range levels {
		v = record(entry(1, v))
	}
	return v
}

// pose returns the value of the chapter's example, and poseText its text.
func pose() api.Value {
	return record(entry(1, number(-5)), entry(4, choice(3)), entry(5, items(truth(1), truth(0))))
}

const poseText = "{x = -5, mode = run, l = [true, false]}"

// arm returns a value with something of most kinds, and armText its text.
func arm() api.Value {
	other := record(entry(1, number(127)), entry(2, word(`a"\ ~`)), entry(4, choice(0)), entry(5, items()))
	return record(entry(1, pose()), entry(2, items(other, pose())), entry(50, record()), entry(127, items(items(choice(0), choice(127)), items())))
}

const armText = `{pose = {x = -5, mode = run, l = [true, false]}, ` +
	`poses = [{x = 127, name = "a\"\\ ~", mode = idle, l = []}, {x = -5, mode = run, l = [true, false]}], ` +
	`empty = {}, words = [[true, abcdefghijklmnop], []]}`

// sample is a value of a type of the example with its text.
type sample struct {
	of    api.Type
	value api.Value
	text  string
}

// samples returns values of all kinds.
func samples() []sample {
	return []sample{
		{boolean(), truth(0), "false"},
		{boolean(), truth(1), "true"},
		{integer(8), number(-128), "-128"},
		{integer(8), number(-1), "-1"},
		{integer(8), number(0), "0"},
		{integer(8), number(127), "127"},
		{integer(16), number(-32768), "-32768"},
		{integer(16), number(32767), "32767"},
		{integer(32), number(-2147483648), "-2147483648"},
		{integer(32), number(2147483647), "2147483647"},
		{integer(64), number(least), "-9223372036854775808"},
		{integer(64), number(most), "9223372036854775807"},
		{unsigned(8), natural(0), "0"},
		{unsigned(8), natural(255), "255"},
		{unsigned(16), natural(0), "0"},
		{unsigned(16), natural(65535), "65535"},
		{unsigned(32), natural(0), "0"},
		{unsigned(32), natural(4294967295), "4294967295"},
		{text(1), word(""), `""`},
		{text(1), word("a"), `"a"`},
		{text(1), word(`"`), `"\""`},
		{text(1), word(`\`), `"\\"`},
		{text(2000), word(`a "b" \`), `"a \"b\" \\"`},
		{text(2000), word(`\"\\""n`), `"\\\"\\\\\"\"n"`},
		{text(2000), word("true"), `"true"`},
		{text(2000), word(" # [1, 2] {x = 3}; "), `" # [1, 2] {x = 3}; "`},
		{enumType("Mode"), choice(0), "idle"},
		{enumType("Mode"), choice(3), "run"},
		{enumType("Word"), choice(0), "true"},
		{enumType("Word"), choice(1), "false"},
		{enumType("Word"), choice(127), "abcdefghijklmnop"},
		{enumType("Only"), choice(0), "one"},
		{list(2, integer(8)), items(), "[]"},
		{list(2, integer(8)), items(number(-1)), "[-1]"},
		{list(2, integer(8)), items(number(1), number(2)), "[1, 2]"},
		{list(3, boolean()), items(truth(1), truth(0), truth(1)), "[true, false, true]"},
		{list(3, text(9)), items(word(""), word(", "), word("]")), `["", ", ", "]"]`},
		{list(3, structType("Empty")), items(record(), record()), "[{}, {}]"},
		{list(3, list(1, unsigned(8))), items(items(), items(natural(7)), items()), "[[], [7], []]"},
		{lists(6, boolean()), nested(6, truth(1)), "[[[[[[true]]]]]]"},
		{lists(6, boolean()), nested(5, items()), "[[[[[[]]]]]]"},
		{lists(9, boolean()), nested(5, items()), "[[[[[[]]]]]]"},
		{structType("Empty"), record(), "{}"},
		{structType("Free"), record(), "{}"},
		{structType("Free"), record(entry(4, word(""))), `{b = ""}`},
		{structType("Free"), record(entry(3, number(3)), entry(5, truth(1))), "{c = 3, a = true}"},
		{structType("Free"), record(entry(6, choice(1)), entry(7, items(natural(9)))), "{true = false, abcdefghijklmnop = [9]}"},
		{structType("S1"), recorded(6, word("n")), `{next = {next = {next = {next = {next = {next = "n"}}}}}}`},
		{structType("S1"), recorded(5, record()), `{next = {next = {next = {next = {next = {}}}}}}`},
		{structType("Pose"), record(entry(1, number(1)), entry(2, word("a")), entry(4, choice(3)), entry(5, items())), `{x = 1, name = "a", mode = run, l = []}`},
		{structType("Pose"), pose(), poseText},
		{list(2, structType("Pose")), items(pose(), pose()), "[" + poseText + ", " + poseText + "]"},
		{structType("Arm"), record(entry(1, pose())), "{pose = " + poseText + "}"},
		{structType("Arm"), arm(), armText},
	}
}

// notPermitted returns types that the example does not permit.
func notPermitted() []api.Type {
	return []api.Type{
		{}, {Kind: -1}, {Kind: 8}, {Kind: most}, {Kind: least},
		integer(0), integer(-8), integer(7), integer(128), unsigned(64), unsigned(0), unsigned(most),
		text(0), text(-1), text(2001), list(0, boolean()), list(33, boolean()), list(-1, boolean()), list(2), list(2, boolean(), boolean()),
		lists(3, unsigned(64)), lists(2, list(2)), list(2, structType("None")), structType(""), structType("None"), structType("Mode"), structType("pose"), enumType(""), enumType("Pose"), enumType("mode"),
		{Kind: api.KBool, Size: 1}, {Kind: api.KBool, Name: "Mode"}, {Kind: api.KInt, Size: 8, Name: "Mode"}, {Kind: api.KText, Size: 8, Elem: []api.Type{boolean()}},
		{Kind: api.KList, Size: 2, Name: "Pose", Elem: []api.Type{boolean()}}, {Kind: api.KStruct, Name: "Pose", Size: 1}, {Kind: api.KStruct, Name: "Pose", Elem: []api.Type{boolean()}}, {Kind: api.KEnum, Name: "Mode", Size: 3},
	}
}

// Checks of results.

func formatted(t *testing.T, s api.Schema, x api.Type, v api.Value, want string) {
	t.Helper()
	if got := valuetext.Format(s, x, v); got != want {
		t.Errorf("Format(%+v, %+v) = %q, want %q; of %+v", x, v, got, want, s)
	}
}

// exampleFormatted checks the text of a value of a type of the example.
func exampleFormatted(t *testing.T, x api.Type, v api.Value, want string) {
	t.Helper()
	if got := valuetext.Format(example(), x, v); got != want {
		t.Errorf("Format(%+v, %+v) = %q, want %q", x, v, got, want)
	}
}

// parsed checks that Parse returns the value, or the error with its offset and
// nothing else.
func parsed(t *testing.T, s api.Schema, x api.Type, text string, want api.Value, e api.Errno, at int) {
	t.Helper()
	if got, gotE, gotAt := valuetext.Parse(s, x, text); !same(got, want) || gotE != e || gotAt != at {
		t.Errorf("Parse(%+v, %q) = %+v, %v, %d, want %+v, %v, %d; of %+v", x, text, got, gotE, gotAt, want, e, at, s)
	}
}

// accepted checks that Parse returns the value, for a type of the example.
func accepted(t *testing.T, x api.Type, text string, want api.Value) {
	t.Helper()
	if got, e, at := valuetext.Parse(example(), x, text); !same(got, want) || e != api.OK || at != 0 {
		t.Errorf("Parse(%+v, %q) = %+v, %v, %d, want %+v", x, text, got, e, at, want)
	}
}

// refused checks that Parse returns the error with its offset and nothing else,
// for a type of the example.
func refused(t *testing.T, x api.Type, text string, e api.Errno, at int) {
	t.Helper()
	if got, gotE, gotAt := valuetext.Parse(example(), x, text); !same(got, api.Value{}) || gotE != e || gotAt != at {
		t.Errorf("Parse(%+v, %q) = %+v, %v, %d, want %v at %d", x, text, got, gotE, gotAt, e, at)
	}
}

// same reports whether two values are equal. Empty lists are, nil or not.
func same(a, b api.Value) bool {
	return a.Kind == b.Kind && a.N == b.N && a.S == b.S && slices.EqualFunc(a.L, b.L, same) &&
		slices.EqualFunc(a.F, b.F, func(f, g api.Entry) bool { return f.Number == g.Number && same(f.Value, g.Value) })
}

// Random schemas, types and values.

func pick[T any](r *rand.Rand, of ...T) T {
	return of[r.Intn(len(of))]
}

// randomSchema returns a valid schema, each of whose structs has only those
// before it in its fields.
func randomSchema(r *rand.Rand) api.Schema {
	for {
		s := api.Schema{Version: 1, Enums: example().Enums}
		for i := range 1 + r.Intn(6) {
			names := []string{"x", "y", "true", "false", "idle", "Word", "a_1", "abcdefghijklmnop"}
			r.Shuffle(len(names), func(i, k int) { names[i], names[k] = names[k], names[i] })
			x := structure(fmt.Sprintf("S%d", i))
			for number := 1; number < 9; number += 1 + r.Intn(5) {
				x.Fields = append(x.Fields, api.Field{Number: number, Name: names[number-1], Type: randomType(r, s), Optional: r.Intn(2) == 0})
			}
			s.Structs = append(s.Structs, x)
		}
		if schema.Check(s) == api.OK {
			return s
		}
	}
}

// randomType returns a permitted type of a schema.
func randomType(r *rand.Rand, s api.Schema) api.Type {
	switch n := r.Intn(9); {
	case n < 2 && len(s.Structs) > 0:
		return structType(pick(r, s.Structs...).Name)
	case n < 4:
		return list(1+r.Intn(4), randomType(r, s))
	case n == 4:
		return enumType(pick(r, s.Enums...).Name)
	case n == 5:
		return text(pick(r, 1, 2, 5, 300))
	case n == 6:
		return unsigned(8 << r.Intn(3))
	case n == 7:
		return integer(8 << r.Intn(4))
	}
	return boolean()
}

// randomValue returns a value of a permitted type, which may have too many
// levels, or strings that no text has.
func randomValue(r *rand.Rand, s api.Schema, t api.Type) api.Value {
	v := api.Value{Kind: t.Kind}
	switch t.Kind {
	case api.KBool:
		v.N = int64(r.Intn(2))
	case api.KInt:
		power := int64(1) << (t.Size - 1)
		v.N = pick(r, -power, -power+1, -1, 0, 1, 2, power-1)
	case api.KUint:
		v.N = pick(r, 0, 1, 2, 10, int64(1)<<t.Size-1)
	case api.KEnum:
		x, _ := schema.Enum(s, t.Name)
		v.N = int64(pick(r, x.Numbers...))
	case api.KText:
		v.S = randomString(r, t.Size)
	case api.KList:
		for range r.Intn(t.Size + 1) {
			v.L = append(v.L, randomValue(r, s, t.Elem[0]))
		}
	case api.KStruct:
		x, _ := schema.Struct(s, t.Name)
		for _, f := range x.Fields {
			if !f.Optional || r.Intn(2) == 0 {
				v.F = append(v.F, entry(f.Number, randomValue(r, s, f.Type)))
			}
		}
	}
	return v
}

// randomString returns a string of at most so many bytes. Now and then it is
// one that no text has.
func randomString(r *rand.Rand, size int) string {
	alphabet := []byte(` !"#[\]az~`)
	if r.Intn(20) == 0 {
		alphabet = append(alphabet, 31, 127, '\n', 0, 255)
	}
	length := min(r.Intn(size+1), r.Intn(20))
	if r.Intn(20) == 0 {
		length = min(size, 199+r.Intn(3))
	}
	s := make([]byte, length)
	for i := range s {
		s[i] = pick(r, alphabet...)
	}
	return string(s)
}

// parts returns pointers to a value and to all values within it.
func parts(v *api.Value) []*api.Value {
	all := []*api.Value{v}
	for i := range v.L {
		all = append(all, parts(&v.L[i])...)
	}
	for i := range v.F {
		all = append(all, parts(&v.F[i].Value)...)
	}
	return all
}

// renewed returns the same value, in new memory.
func renewed(v api.Value) api.Value {
	x := api.Value{Kind: v.Kind, N: v.N, S: v.S}
	for _, y := range v.L {
		x.L = append(x.L, renewed(y))
	}
	for _, f := range v.F {
		x.F = append(x.F, entry(f.Number, renewed(f.Value)))
	}
	return x
}

// damaged returns a value of which something was changed.
func damaged(r *rand.Rand, v api.Value) api.Value {
	v = renewed(v)
	all := parts(&v)
	x, other := pick(r, all...), renewed(*pick(r, all...))
	switch r.Intn(8) {
	case 0:
		x.Kind = r.Intn(10) - 1
	case 1:
		x.N = pick[int64](r, -129, -1, 1, 2, 3, 128, 256, 1<<32, most)
	case 2:
		x.S += pick(r, "a", "\n", `"`, "aaaaaa")
	case 3:
		x.L = append(x.L, other)
	case 4:
		x.F = append(x.F, entry(r.Intn(10), other))
	case 5:
		x.L = slices.Repeat(x.L, r.Intn(3))
	case 6:
		x.F = x.F[:r.Intn(len(x.F)+1)]
	default:
		*x = other
	}
	return renewed(v)
}

// forValues calls check with the samples, with random values of types of random
// schemas, and with such values after some damage.
func forValues(check func(s api.Schema, t api.Type, v api.Value)) {
	for _, x := range samples() {
		check(example(), x.of, x.value)
	}
	r := rand.New(rand.NewSource(1))
	for range 2000 {
		s := randomSchema(r)
		for range 4 {
			t := randomType(r, s)
			v := randomValue(r, s, t)
			check(s, t, v)
			check(s, t, damaged(r, v))
		}
	}
}

// Texts.

// vocabulary returns tokens as they are written.
func vocabulary() []string {
	return []string{
		"{", "}", "[", "]", ",", "=", "(", ")", ":", ";", ".", "?", "!", "&", "|", "@",
		"true", "false", "True", "idle", "run", "stop", "Word", "x", "name", "mode", "l", "pose", "abcdefghijklmnop",
		"0", "1", "-1", "3", "127", "128", "-128", "-129", "255", "256", "4294967296", "9223372036854775807",
		`""`, `"a"`, `"x"`, `"true"`, `"idle"`, `"{"`, `"abcdef"`, `"\""`,
	}
}

// tokensOf returns the tokens of a text, as they are written.
func tokensOf(s string) []string {
	tokens, _, _ := lexer.Scan(s)
	var all []string
	for _, token := range tokens {
		if token.Kind != api.TkEnd {
			all = append(all, lexer.Print([]api.Token{token}))
		}
	}
	return all
}

// vary calls check with a text after each change of one token: left out, twice,
// or another one in its place or before it; or with the end in its place.
// Tokens have single spaces between.
func vary(s string, check func(s string)) {
	tokens := tokensOf(s)
	for i := range len(tokens) + 1 {
		check(strings.Join(tokens[:i], " "))
		for _, other := range vocabulary() {
			check(strings.Join(slices.Insert(slices.Clone(tokens), i, other), " "))
			if i < len(tokens) {
				changed := slices.Clone(tokens)
				changed[i] = other
				check(strings.Join(changed, " "))
			}
		}
		if i < len(tokens) {
			check(strings.Join(slices.Delete(slices.Clone(tokens), i, i+1), " "))
			check(strings.Join(slices.Insert(slices.Clone(tokens), i, tokens[i]), " "))
		}
	}
}

// forTexts calls check with texts for types: those of the samples and what vary
// makes of them, and random ones of the chapter's grammar, in which now and
// then a token or a byte is another one.
func forTexts(check func(s api.Schema, t api.Type, text string)) {
	for _, x := range samples() {
		vary(x.text, func(text string) { check(example(), x.of, text) })
		for i := range len(x.text) + 1 {
			check(example(), x.of, x.text[:i])
			check(example(), x.of, x.text[i:])
		}
	}
	r := rand.New(rand.NewSource(2))
	for range 1500 {
		s := randomSchema(r)
		for range 4 {
			t := randomType(r, s)
			text := laidOut(r, grown(r, s, t))
			check(s, t, text)
			if text != "" {
				i := r.Intn(len(text))
				check(s, t, text[:i]+string([]byte{pick[byte](r, 0, '~', '-', '"', '\\', ' ', '\n', '1', 'a', ']', '}', ',', 255)})+text[i+1:])
			}
		}
	}
}

// grown returns the tokens of a random text that fits a type. A few of them
// are others.
func grown(r *rand.Rand, s api.Schema, t api.Type) []string {
	var tokens []string
	for left := []symbol{valueOf(s, t)}; len(left) > 0; {
		next := left[0]
		left = left[1:]
		if next.alternatives != nil {
			possible := slices.DeleteFunc(next.alternatives(), func(x []symbol) bool { return !isPossible(x) })
			left = append(slices.Clone(pick(r, possible...)), left...)
			continue
		}
		token := next.spell(r)
		if r.Intn(200) == 0 {
			token = pick(r, vocabulary()...)
		}
		tokens = append(tokens, token)
	}
	return tokens
}

// laidOut returns a text of tokens with random white space and remarks, and
// with none where none is required.
func laidOut(r *rand.Rand, tokens []string) string {
	text := separation(r, false)
	for i, token := range tokens {
		if i > 0 {
			text += separation(r, isWord(tokens[i-1]) && isWord(token))
		}
		text += token
	}
	return text + separation(r, false)
}

// isWord reports whether a token is a name or a number.
func isWord(token string) bool {
	return !strings.Contains(`"{}()[]:;,=.?!&|@`, token[:1])
}

func separation(r *rand.Rand, required bool) string {
	if !required && r.Intn(2) == 0 {
		return ""
	}
	return pick(r, " ", " ", "\n", "\t", "  \n\t ", "# remark\n", " # } ] , \"\xff\n\n#\n ")
}

// spelledNumber returns a number such as a text may have, in range or not.
func spelledNumber(r *rand.Rand) string {
	return strconv.FormatInt(pick[int64](r, 0, 1, 1, 2, 3, -1, 127, 128, -128, 255, 256, 65535, 1<<31, -1<<31, 1<<32-1, least, most), 10)
}
