package valuetext_test

import (
	"fmt"
	"math/rand"
	"slices"
	"strings"
	"testing"

	"robotics/api"
	"robotics/lexer"
	"robotics/valuetext"
)

// P10.3

// readBack checks that the text of a value, if it has one, is read as this
// value, and reports whether it has.
func readBack(t *testing.T, s api.Schema, x api.Type, v api.Value) bool {
	t.Helper()
	text := valuetext.Format(s, x, v)
	if text == "" {
		return false
	}
	parsed(t, s, x, text, v, api.OK, 0)
	return true
}

func TestTextsAreReadBack(t *testing.T) {
	kinds := map[int]int{}
	forValues(func(s api.Schema, x api.Type, v api.Value) {
		if readBack(t, s, x, v) {
			kinds[x.Kind]++
		}
	})
	for kind := api.KBool; kind <= api.KEnum; kind++ {
		if kinds[kind] < 300 {
			t.Errorf("only %d values of the kind %d are read back", kinds[kind], kind)
		}
	}
}

func TestNumbersAreReadBack(t *testing.T) {
	for bits := range 64 {
		for _, n := range []int64{1<<bits - 1, 1 << bits, -1 << bits, -1<<bits + 1} {
			if !readBack(t, example(), integer(64), number(n)) {
				t.Errorf("%d has no text", n)
			}
		}
	}
	for n := range int64(256) {
		if !readBack(t, example(), unsigned(8), natural(n)) || !readBack(t, example(), integer(8), number(n-128)) {
			t.Errorf("%d or %d has no text", n, n-128)
		}
	}
}

// All strings of three bytes, and longer ones.
func TestStringsAreReadBack(t *testing.T) {
	const bytes = ` !"#/0\az~`
	for _, a := range bytes {
		for _, b := range bytes {
			for _, c := range bytes {
				if !readBack(t, example(), text(3), word(string([]rune{a, b, c}))) {
					t.Errorf("%q has no text", string([]rune{a, b, c}))
				}
			}
		}
	}
	r := rand.New(rand.NewSource(3))
	for length := range 201 {
		s := make([]byte, length)
		for i := range s {
			s[i] = byte(32 + r.Intn(95))
		}
		if !readBack(t, example(), text(2000), word(string(s))) {
			t.Errorf("%q has no text", s)
		}
	}
}

func TestLongestTextsAreReadBack(t *testing.T) {
	many := list(32, text(2000))
	for last := range 97 {
		if !readBack(t, example(), many, words(126, 30, last)) {
			t.Errorf("with %d bytes: no text", last)
		}
	}
	if readBack(t, example(), many, words(126, 30, 97)) {
		t.Error("a text of 4001 bytes")
	}
	rows := list(32, list(32, boolean()))
	if v := table(truth(1), 655); !readBack(t, example(), rows, v) || len(format(example(), rows, v)) < 3950 {
		t.Errorf("%d bytes", len(format(example(), rows, v)))
	}
}

// P10.4

// separations are white space and remarks.
func separations() []string {
	return []string{" ", "\n", "\t", "    ", " \t\n ", "#\n", "# remark\n", " # { [ \" \x00 ~ \xff\n#\n\t"}
}

// The same separation between all tokens, before the first and behind the last.
func TestSeparations(t *testing.T) {
	for _, x := range samples() {
		for _, separation := range separations() {
			tokens := tokensOf(x.text)
			accepted(t, x.of, separation+strings.Join(tokens, separation)+separation, x.value)
		}
	}
}

// One separation more, anywhere between tokens.
func TestEachSeparation(t *testing.T) {
	for _, x := range samples() {
		tokens := tokensOf(x.text)
		for i := range len(tokens) + 1 {
			for _, separation := range separations() {
				accepted(t, x.of, strings.Join(tokens[:i], " ")+separation+strings.Join(tokens[i:], " "), x.value)
			}
		}
	}
	accepted(t, structType("Pose"), "{x=-5,mode=run,l=[true,false]}#", pose())
	accepted(t, structType("Pose"), "#\n{x=-5 # the first\n,mode=run,l=[true,false]}", pose())
	accepted(t, text(9), `" # a "`, word(" # a "))
	accepted(t, text(9), ` "#"#`, word("#"))
}

// The separations of a text do not matter, nor for its errors, but for the
// offset.
func TestLayout(t *testing.T) {
	r := rand.New(rand.NewSource(4))
	compared := 0
	forTexts(func(s api.Schema, x api.Type, text string) {
		_, scanned, _ := lexer.Scan(text)
		if scanned != api.OK || r.Intn(4) > 0 {
			return
		}
		want, e, at := valuetext.Parse(s, x, text)
		for range 2 {
			other := laidOut(r, tokensOf(text))
			if len(other) > 4000 {
				continue
			}
			compared++
			got, otherE, otherAt := valuetext.Parse(s, x, other)
			if !same(got, want) || otherE != e {
				t.Errorf("Parse(%q) = %+v, %v, but Parse(%q) = %+v, %v", text, want, e, other, got, otherE)
			}
			if e == api.ErrFormat && tokenAt(text, at) != tokenAt(other, otherAt) {
				t.Errorf("Parse(%q) stops at %d, but Parse(%q) at %d", text, at, other, otherAt)
			}
			if e != api.ErrFormat && (at != 0 || otherAt != 0) {
				t.Errorf("Parse(%q): %v at %d, and at %d", text, e, at, otherAt)
			}
		}
	})
	if compared < 5000 {
		t.Errorf("only %d texts are compared", compared)
	}
}

// tokenAt returns the number of the token at an offset.
func tokenAt(s string, at int) int {
	tokens, _, _ := lexer.Scan(s)
	return slices.IndexFunc(tokens, func(token api.Token) bool { return token.At == at })
}

// Format of what is parsed is a text of the same tokens with no other
// separations than those of the chapter, and is parsed as the same value.
func TestFormatOfParsedValues(t *testing.T) {
	texts := 0
	forTexts(func(s api.Schema, x api.Type, text string) {
		v, e, _ := valuetext.Parse(s, x, text)
		if e != api.OK {
			return
		}
		texts++
		got := valuetext.Format(s, x, v)
		tidy := strings.NewReplacer("[ ", "[", " ]", "]", "{ ", "{", " }", "}", " ,", ",")
		if x.Kind != api.KText && !strings.Contains(text, `"`) && got != tidy.Replace(strings.Join(tokensOf(text), " ")) {
			t.Errorf("Parse(%q) is written as %q", text, got)
		}
		if got == "" || !slices.Equal(tokensOf(got), tokensOf(text)) {
			t.Errorf("Parse(%q) is written as %q, with other tokens", text, got)
		}
		readBack(t, s, x, v)
	})
	if texts < 1000 {
		t.Errorf("only %d texts are accepted", texts)
	}
}

// A text without white space may be that of a value whose text with it is too
// long. Each part of the value is still read back.
func TestParsedValuesWithoutText(t *testing.T) {
	for _, x := range []struct {
		of    api.Type
		value api.Value
	}{
		{list(32, text(2000)), words(126, 30, 97)},
		{list(32, text(2000)), words(126, 30, 126)},
		{list(32, list(32, boolean())), table(truth(1), 780)},
		{list(32, list(32, unsigned(8))), table(natural(10), 1024)},
		{list(32, structType("Free")), items(slices.Repeat([]api.Value{record(entry(3, number(least)), entry(4, word(strings.Repeat("a", 90))))}, 32)...)},
	} {
		long := spelled(example(), x.of, x.value)
		short := strings.ReplaceAll(long, " ", "") // no string of these values has a space
		if len(long) <= 4000 || len(short) > 4000 {
			t.Fatalf("texts of %d and %d bytes", len(long), len(short))
		}
		accepted(t, x.of, short, x.value)
		accepted(t, x.of, short+strings.Repeat("\n", 4000-len(short)), x.value)
		exampleFormatted(t, x.of, x.value, "")
		refused(t, x.of, long, api.ErrLong, 0)
		got, _, _ := valuetext.Parse(example(), x.of, short)
		for _, part := range got.L {
			if !readBack(t, example(), x.of.Elem[0], part) {
				t.Errorf("%+v has no text", part)
			}
		}
	}
}

// R1

// forStrangeSchemas calls use with schemas that are not valid.
func forStrangeSchemas(use func(s api.Schema)) {
	pose := func(s *api.Schema) []api.Field { return s.Structs[0].Fields }
	for _, change := range []func(s *api.Schema){
		func(s *api.Schema) { *s = api.Schema{} },
		func(s *api.Schema) { s.Version = -1 },
		func(s *api.Schema) { s.Version = 1000 },
		func(s *api.Schema) { pose(s)[0].Type = structType("Pose") },
		func(s *api.Schema) { pose(s)[0].Type = structType("Arm") },
		func(s *api.Schema) { pose(s)[0].Type = list(2, structType("Pose")) },
		func(s *api.Schema) { pose(s)[0].Type = list(2) },
		func(s *api.Schema) { pose(s)[0].Type = list(2, boolean(), integer(8)) },
		func(s *api.Schema) { pose(s)[0].Type = api.Type{Kind: 99} },
		func(s *api.Schema) { pose(s)[0].Type = api.Type{Kind: -1} },
		func(s *api.Schema) { pose(s)[0].Type = integer(-5) },
		func(s *api.Schema) { pose(s)[0].Type = structType("None") },
		func(s *api.Schema) { pose(s)[0].Type = enumType("None") },
		func(s *api.Schema) { pose(s)[0].Type = lists(1<<16-2, boolean()) },
		func(s *api.Schema) { pose(s)[1].Number = 1 },
		func(s *api.Schema) { pose(s)[1].Name = "x" },
		func(s *api.Schema) { pose(s)[1].Name = "" },
		func(s *api.Schema) { pose(s)[0].Number = -1 },
		func(s *api.Schema) {
			s.Structs[0] = structure("Pose", optional(2, "a", list(2)), field(1, "b", integer(8)), field(2, "c", list(2, boolean())))
		},
		func(s *api.Schema) {
			s.Structs[0] = structure("Pose", optional(2, "a", enumType("None")), field(1, "b", integer(8)), field(2, "c", integer(8)))
		},
		func(s *api.Schema) { slices.Reverse(pose(s)) },
		func(s *api.Schema) { s.Structs[0].Fields = slices.Repeat(pose(s), 100) },
		func(s *api.Schema) { s.Structs = slices.Repeat(s.Structs, 1000) },
		func(s *api.Schema) { s.Structs[0].Name, s.Structs[1].Name = "", "" },
		func(s *api.Schema) { s.Enums[0].Names = nil },
		func(s *api.Schema) { s.Enums[0].Names = []string{"run"} },
		func(s *api.Schema) { s.Enums[0].Numbers = nil },
		func(s *api.Schema) { s.Enums[0].Numbers = []int{most, least, 5, 5} },
		func(s *api.Schema) { s.Enums[0].Numbers = []int{3} },
		func(s *api.Schema) { s.Enums[0].Names = []string{"", "run"} },
		func(s *api.Schema) { s.Enums[0].Name = "Pose" },
	} {
		s := example()
		change(&s)
		use(s)
	}
}

func TestStrangeSchemas(t *testing.T) {
	values := []api.Value{{}, {Kind: 99}, record(entry(1, number(5)), entry(2, items(truth(1)))), record(entry(1, number(5)), entry(2, number(6))), record(entry(1, number(1)), entry(1, number(1))), recorded(6, record())}
	texts := []string{"", "~", "{x = {x = {x = {x = {x = {x = {x = {}}}}}}}}", "{a = [], b = 5, c = [true]}", "{a = [true]}", "{b = 5, c = [true]}", "{b = 5, a = x}", "[[[[]]]]", "{ = 1}", strings.Repeat("{x = ", 800), strings.Repeat("{x = [", 600), strings.Repeat("[", 4000)}
	types := []api.Type{structType("Pose"), structType("Arm"), structType("S9"), structType(""), lists(3, structType("Pose")), enumType("Mode"), boolean(), list(2), {}}
	for _, x := range samples() {
		values, texts = append(values, x.value), append(texts, x.text)
	}
	forStrangeSchemas(func(s api.Schema) {
		for _, x := range types {
			for _, v := range values {
				valuetext.Format(s, x, v)
			}
			for _, text := range texts {
				valuetext.Parse(s, x, text)
			}
		}
	})
}

func TestStrangeTexts(t *testing.T) {
	types := []api.Type{boolean(), integer(8), text(3), enumType("Word"), list(2, boolean()), structType("Free"), structType("Empty")}
	r := rand.New(rand.NewSource(5))
	for range 10000 {
		bytes := make([]byte, r.Intn(60))
		for i := range bytes {
			bytes[i] = byte(r.Intn(256))
		}
		text := string(bytes)
		if _, e, at := lexer.Scan(text); e != api.OK {
			for _, x := range types {
				refused(t, x, text, e, at)
			}
		}
	}
	for _, unit := range []string{"a", "true", "{", "[", "0", "-", "\"", "#", " ", "\x00", "{x = ", "[true, "} {
		long := strings.Repeat(unit, 1<<16)
		for _, x := range types {
			refused(t, x, long, api.ErrLong, 0)
		}
		refused(t, structType(long), "{}", api.ErrType, 0)
		refused(t, enumType(long), "idle", api.ErrType, 0)
		exampleFormatted(t, structType(long), record(), "")
		exampleFormatted(t, text(2000), word(long), "")
	}
}

func TestStrangeValues(t *testing.T) {
	const many = 1<<16 - 2
	for _, v := range []api.Value{nested(many, number(1)), recorded(many, number(1)), items(make([]api.Value, 1<<16)...), record(make([]api.Entry, 1<<16)...)} {
		for _, x := range []api.Type{boolean(), lists(6, integer(8)), lists(many, integer(8)), structType("S1"), structType("Free"), {}} {
			exampleFormatted(t, x, v, "")
		}
	}
	endless := items(number(1))
	endless.L[0] = endless
	exampleFormatted(t, lists(6, integer(8)), endless, "")
	exampleFormatted(t, lists(many, integer(8)), items(items()), "[[]]")
	accepted(t, lists(many, integer(8)), "[[]]", items(items()))
	exampleFormatted(t, lists(many, integer(9)), items(), "")
	refused(t, lists(many, integer(9)), "[]", api.ErrType, 0)
	exampleFormatted(t, list(2, make([]api.Type, 1<<16)...), items(), "")
	refused(t, list(2, make([]api.Type, 1<<16)...), "[]", api.ErrType, 0)
}

// The text of a large value is not written to its end.
func TestLargeValues(t *testing.T) {
	x, v := text(2000), word(strings.Repeat("a", 200))
	for range 4 {
		x, v = list(32, x), items(slices.Repeat([]api.Value{v}, 32)...)
	}
	exampleFormatted(t, x, v, "")
}

// R2

// Together with an error, nothing of what was read is returned.
func TestNothingWithAnError(t *testing.T) {
	errors := 0
	forTexts(func(s api.Schema, x api.Type, text string) {
		v, e, at := valuetext.Parse(s, x, text)
		if e != api.OK && !same(v, api.Value{}) || e == api.OK && at != 0 {
			t.Errorf("Parse(%q) = %+v, %v, %d", text, v, e, at)
		}
		if e != api.OK {
			errors++
		}
	})
	if errors < 5000 {
		t.Errorf("only %d texts have an error", errors)
	}
}

// R3

// spacious returns the same value, with lists that have spare capacity.
func spacious(v api.Value) api.Value {
	x := v
	x.L, x.F = make([]api.Value, 0, len(v.L)+3), make([]api.Entry, 0, len(v.F)+3)
	for _, y := range v.L {
		x.L = append(x.L, spacious(y))
	}
	for _, f := range v.F {
		x.F = append(x.F, entry(f.Number, spacious(f.Value)))
	}
	return x
}

// everything returns a text of a value with all of its spare capacity.
func everything(v api.Value) string {
	text := fmt.Sprint(v.Kind, v.N, v.S, "[")
	for _, x := range v.L[:cap(v.L)] {
		text += everything(x) + ","
	}
	text += "]{"
	for _, f := range v.F[:cap(v.F)] {
		text += fmt.Sprint(f.Number, everything(f.Value), ",")
	}
	return text + "}"
}

// spaciousExample returns the example, with spare capacity everywhere.
func spaciousExample() api.Schema {
	s := example()
	s.Enums, s.Structs = slices.Grow(s.Enums, 5), slices.Grow(s.Structs, 5)
	for i := range s.Enums {
		x := &s.Enums[i]
		x.Names, x.Numbers = slices.Grow(x.Names, 5), slices.Grow(x.Numbers, 5)
	}
	for i := range s.Structs {
		s.Structs[i].Fields = slices.Grow(s.Structs[i].Fields, 5)
	}
	return s
}

// all returns a text of a schema with all of its spare capacity.
func all(s api.Schema) string {
	text := fmt.Sprint(s.Version, s.Enums[:cap(s.Enums)], s.Structs[:cap(s.Structs)])
	for _, x := range s.Enums {
		text += fmt.Sprint(x.Names[:cap(x.Names)], x.Numbers[:cap(x.Numbers)])
	}
	for _, x := range s.Structs {
		text += fmt.Sprint(x.Fields[:cap(x.Fields)])
	}
	return text
}

func TestArgumentsAreNotModified(t *testing.T) {
	s := spaciousExample()
	schemaBefore := all(s)
	for _, x := range append(samples(), sample{structType("Pose"), record(), ""}, sample{boolean(), truth(7), ""}) {
		x.of.Elem = slices.Grow(x.of.Elem, 3)
		v := spacious(x.value)
		before := everything(v) + fmt.Sprint(x.of, x.of.Elem[:cap(x.of.Elem)])
		formatted(t, s, x.of, v, x.text)
		valuetext.Parse(s, x.of, x.text)
		valuetext.Parse(s, x.of, x.text+"]")
		if after := everything(v) + fmt.Sprint(x.of, x.of.Elem[:cap(x.of.Elem)]); after != before {
			t.Errorf("%s has become %s", before, after)
		}
		if after := all(s); after != schemaBefore {
			t.Fatalf("after %q, %s has become %s", x.text, schemaBefore, after)
		}
	}
}

// overwrite changes all of the lists of a value, with their spare capacity.
func overwrite(v api.Value) {
	l, f := v.L[:cap(v.L)], v.F[:cap(v.F)]
	for i := range l {
		overwrite(l[i])
		l[i] = word("overwritten")
	}
	for i := range f {
		overwrite(f[i].Value)
		f[i] = entry(999, word("overwritten"))
	}
}

// What is done to one result is not seen in another one, nor in the schema.
func TestResultsAreNew(t *testing.T) {
	s := spaciousExample()
	before := all(s)
	for _, x := range samples() {
		one, _, _ := valuetext.Parse(s, x.of, x.text)
		again, _, _ := valuetext.Parse(s, x.of, x.text)
		overwrite(one)
		if !same(again, x.value) || all(s) != before {
			t.Errorf("of %q: %+v, %s", x.text, again, all(s))
		}
		parsed(t, s, x.of, x.text, x.value, api.OK, 0)
	}
}

// No two lists of one result share memory.
func TestListsOfResultsAreApart(t *testing.T) {
	for _, x := range samples() {
		v, _, _ := valuetext.Parse(example(), x.of, x.text)
		seen := map[any]bool{}
		meet := func(place any) {
			if seen[place] {
				t.Errorf("two lists of %+v share memory", v)
			}
			seen[place] = true
		}
		for _, y := range parts(&v) {
			l, f := y.L[:cap(y.L)], y.F[:cap(y.F)]
			for i := range l {
				meet(&l[i])
			}
			for i := range f {
				meet(&f[i])
			}
		}
	}
}

// R7

// Nothing of a call is kept.
func TestCallsAreIndependent(t *testing.T) {
	check := func() {
		t.Helper()
		exampleFormatted(t, structType("Arm"), arm(), armText)
		accepted(t, structType("Arm"), armText, arm())
	}
	for _, x := range samples() {
		valuetext.Format(example(), x.of, x.value)
		check()
		valuetext.Parse(example(), x.of, x.text)
		check()
		valuetext.Parse(example(), x.of, x.text+" ,")
		check()
	}
	for _, x := range notPermitted() {
		valuetext.Parse(example(), x, "{")
		valuetext.Format(example(), x, arm())
		check()
	}
}
