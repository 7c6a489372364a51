package schematext_test

import (
	"fmt"
	"math/rand"
	"slices"
	"strings"
	"testing"

	"robotics/api"
	"robotics/lexer"
	"robotics/schema"
	"robotics/schematext"
)

// P8.5

// readBack checks that the text of a valid schema is the oracle's, and is read
// as this schema, if it is not too long.
func readBack(t *testing.T, s api.Schema) {
	t.Helper()
	text := format(s)
	formatted(t, s, text)
	if len(text) > 4000 {
		refused(t, text, api.ErrLong, 0)
		return
	}
	parsed(t, text, s, api.OK, 0)
}

func TestSchemasAreReadBack(t *testing.T) {
	r := rand.New(rand.NewSource(3))
	valid, long := 0, 0
	for range 3000 {
		s := randomSchema(r)
		if schema.Check(s) != api.OK {
			formatted(t, s, "")
			continue
		}
		readBack(t, s)
		valid++
		if len(format(s)) > 500 {
			long++
		}
	}
	if valid < 1000 || long < 100 {
		t.Errorf("only %d valid schemas, %d of them long", valid, long)
	}
}

// lengthen makes the text of a schema one byte longer.
func lengthen(s api.Schema) {
	for _, x := range s.Structs {
		for i := range x.Fields {
			if name := &x.Fields[i].Name; len(*name) < 16 {
				*name += "_"
				return
			}
		}
	}
}

// A canonical text of the greatest length is read back, a longer one is not.
func TestLongestTextIsReadBack(t *testing.T) {
	s := structs()
	for i := range 16 {
		x := structure(fmt.Sprintf("S%d", i))
		for k := range 12 {
			x.Fields = append(x.Fields, field(k+1, string(rune('a'+k)), text(1)))
		}
		s.Structs = append(s.Structs, x)
	}
	for len(format(s)) < 4000 {
		lengthen(s)
	}
	if len(format(s)) != 4000 {
		t.Fatalf("the text has %d bytes", len(format(s)))
	}
	parsed(t, schematext.Format(s), s, api.OK, 0)
	lengthen(s)
	formatted(t, s, format(s))
	refused(t, schematext.Format(s), api.ErrLong, 0)
}

// What Parse accepts, Format writes, and Parse reads the same from it.
func TestAcceptedTextsAreWritten(t *testing.T) {
	accepted := 0
	forTexts(func(s string) {
		x, e, _ := schematext.Parse(s)
		if e != api.OK {
			return
		}
		accepted++
		readBack(t, x)
	})
	if accepted < 1000 {
		t.Errorf("only %d texts are accepted", accepted)
	}
}

// P8.6

// asStruct returns a type with names of structs only.
func asStruct(x api.Type) api.Type {
	if x.Kind == api.KEnum {
		x.Kind = api.KStruct
	}
	elem := slices.Clone(x.Elem)
	for i := range elem {
		elem[i] = asStruct(elem[i])
	}
	x.Elem = elem
	return x
}

// anyType returns a type which often cannot be written.
func anyType(r *rand.Rand) api.Type {
	x := pick(r, append(plain(), text(r.Intn(3000)), structType("A"), enumType("Mode"), structType("Abcdefghijklmnop"), enumType("Z_9"))...)
	for range pick(r, 0, 0, 1, 2, 5, 6, 7, r.Intn(10)) {
		x = list(pick(r, 0, 1, 32, 33, most), x)
	}
	if r.Intn(3) > 0 {
		return x
	}
	damaged := &x
	for len(damaged.Elem) > 0 && r.Intn(3) > 0 {
		damaged = &damaged.Elem[0]
	}
	switch r.Intn(4) {
	case 0:
		damaged.Kind = r.Intn(10) - 1
	case 1:
		damaged.Size = pick(r, least, -8, -1, 0, 1, 7, 8, 16, 24, 32, 64, 128, most)
	case 2:
		damaged.Name = pick(r, "", "A", "a", "1", "A b", "Abcdefghijklmnopq", "\xff")
	default:
		damaged.Elem = make([]api.Type, r.Intn(3))
	}
	return x
}

func TestTypesAreReadBack(t *testing.T) {
	r := rand.New(rand.NewSource(4))
	can, cannot := 0, 0
	for range 30000 {
		x := anyType(r)
		if !writable(x) {
			written(t, x, "")
			cannot++
			continue
		}
		can++
		written(t, x, spelled(x))
		parsedType(t, schematext.Type(x), asStruct(x), api.OK, 0)
	}
	if can < 5000 || cannot < 5000 {
		t.Errorf("%d types can be written, %d cannot", can, cannot)
	}
}

func TestAcceptedTypesAreWritten(t *testing.T) {
	accepted := 0
	forTypes(func(s string) {
		x, e, _ := schematext.ParseType(s)
		if e != api.OK {
			return
		}
		accepted++
		text := schematext.Type(x)
		if text == "" {
			t.Errorf("ParseType(%q) = %+v, which is not written", s, x)
		}
		parsedType(t, text, x, api.OK, 0)
	})
	if accepted < 500 {
		t.Errorf("only %d texts are accepted", accepted)
	}
}

// P8.7

// spread calls check with other texts that have the tokens of s, if it has any.
func spread(r *rand.Rand, s string, check func(other string)) {
	tokens, e, _ := lexer.Scan(s)
	if e != api.OK {
		return
	}
	var words []string
	for _, token := range tokens[:len(tokens)-1] {
		words = append(words, lexer.Print([]api.Token{token}))
	}
	for _, other := range []string{strings.Join(words, " "), strings.Join(words, "#\n"), laidOut(r, words), laidOut(r, words)} {
		if len(other) <= 4000 {
			check(other)
		}
	}
}

// tokenAt returns the number of the token at an offset.
func tokenAt(s string, at int) int {
	tokens, _, _ := lexer.Scan(s)
	return slices.IndexFunc(tokens, func(token api.Token) bool { return token.At == at })
}

func TestLayoutOfSchemas(t *testing.T) {
	r := rand.New(rand.NewSource(5))
	compared := 0
	forTexts(func(s string) {
		if r.Intn(8) > 0 {
			return
		}
		want, e, at := schematext.Parse(s)
		spread(r, s, func(other string) {
			compared++
			got, otherE, otherAt := schematext.Parse(other)
			if !same(got, want) || otherE != e {
				t.Errorf("Parse(%q) = %+v, %v, but Parse(%q) = %+v, %v", s, want, e, other, got, otherE)
			}
			if e == api.ErrFormat && (at > 0 || otherAt > 0) && tokenAt(s, at) != tokenAt(other, otherAt) {
				t.Errorf("Parse(%q) stops at %d, but Parse(%q) at %d", s, at, other, otherAt)
			}
		})
	})
	if compared < 5000 {
		t.Errorf("only %d texts are compared", compared)
	}
}

func TestLayoutOfTypes(t *testing.T) {
	r := rand.New(rand.NewSource(6))
	forTypes(func(s string) {
		want, e, at := schematext.ParseType(s)
		spread(r, s, func(other string) {
			got, otherE, otherAt := schematext.ParseType(other)
			if !sameType(got, want) || otherE != e {
				t.Errorf("ParseType(%q) = %+v, %v, but ParseType(%q) = %+v, %v", s, want, e, other, got, otherE)
			}
			if e == api.ErrFormat && tokenAt(s, at) != tokenAt(other, otherAt) {
				t.Errorf("ParseType(%q) stops at %d, but ParseType(%q) at %d", s, at, other, otherAt)
			}
		})
	})
}

// R1

func TestStrangeArguments(t *testing.T) {
	r := rand.New(rand.NewSource(7))
	for range 20000 {
		bytes := make([]byte, r.Intn(60))
		for i := range bytes {
			bytes[i] = byte(r.Intn(256))
		}
		s := string(bytes)
		_, e, at := lexer.Scan(s)
		if e == api.OK {
			continue
		}
		refused(t, s, e, at)
		refusedType(t, s, e, at)
	}
	for _, s := range []string{"a", "A", "{", "[", "0", "-", "\"", "#", " ", "\x00", "list[1]of ", "version 1;"} {
		long := strings.Repeat(s, 1<<16)
		refused(t, long, api.ErrLong, 0)
		refusedType(t, long, api.ErrLong, 0)
		written(t, structType(long), "")
		formatted(t, structs(structure(long)), "")
	}
	formatted(t, structs(make([]api.Struct, 1<<16)...), "")
	formatted(t, enums(make([]api.Enum, 1<<16)...), "")
	formatted(t, structs(structure("A", make([]api.Field, 1<<16)...)), "")
	formatted(t, enums(api.Enum{Name: "A", Names: []string{"a"}, Numbers: make([]int, 1<<16)}), "")
	written(t, list(1, make([]api.Type, 1<<16)...), "")
}

func TestTypesOfManyLevels(t *testing.T) {
	deep := lists(1<<16-2, boolean())
	written(t, deep, "")
	formatted(t, structs(structure("A", field(1, "a", deep))), "")
	endless := list(1, boolean())
	endless.Elem[0] = endless
	written(t, endless, "")
}

// R3 and R7

// spacious returns the schema of the chapter, with spare capacity everywhere.
func spacious() api.Schema {
	s := example()
	s.Enums = slices.Grow(s.Enums, 5)
	s.Structs = slices.Grow(s.Structs, 5)
	s.Enums[0].Names, s.Enums[0].Numbers = slices.Grow(s.Enums[0].Names, 5), slices.Grow(s.Enums[0].Numbers, 5)
	s.Structs[0].Fields = slices.Grow(s.Structs[0].Fields, 5)
	for i := range s.Structs[0].Fields {
		elem := &s.Structs[0].Fields[i].Type.Elem
		*elem = slices.Grow(*elem, 5)
	}
	return s
}

// all returns a text of a schema with all of its spare capacity.
func all(s api.Schema) string {
	text := fmt.Sprint(s.Version, s.Enums[:cap(s.Enums)], s.Structs[:cap(s.Structs)])
	for _, x := range s.Enums {
		text += fmt.Sprint(x.Names[:cap(x.Names)], x.Numbers[:cap(x.Numbers)])
	}
	for _, x := range s.Structs {
		text += fmt.Sprint(x.Fields[:cap(x.Fields)])
		for _, f := range x.Fields {
			text += fmt.Sprint(f.Type.Elem[:cap(f.Type.Elem)])
		}
	}
	return text
}

func TestArgumentsAreNotModified(t *testing.T) {
	s := spacious()
	before := all(s)
	for range 2 {
		formatted(t, s, canonical)
		for _, f := range s.Structs[0].Fields {
			written(t, f.Type, spelled(f.Type))
		}
	}
	if after := all(s); after != before {
		t.Errorf("%s has become %s", before, after)
	}
}

// overwrite changes all of a schema and of its spare capacity.
func overwrite(s api.Schema) {
	for _, x := range s.Enums {
		names, numbers := x.Names[:cap(x.Names)], x.Numbers[:cap(x.Numbers)]
		for i := range names {
			names[i] = "other"
		}
		for i := range numbers {
			numbers[i] = -7
		}
	}
	for _, x := range s.Structs {
		fields := x.Fields[:cap(x.Fields)]
		for i := range fields {
			overwriteType(fields[i].Type)
			fields[i] = optional(-7, "other", text(-7))
		}
	}
	for i := range s.Enums[:cap(s.Enums)] {
		s.Enums[:cap(s.Enums)][i] = enum("Other", "other")
	}
	for i := range s.Structs[:cap(s.Structs)] {
		s.Structs[:cap(s.Structs)][i] = structure("Other")
	}
}

func overwriteType(x api.Type) {
	elem := x.Elem[:cap(x.Elem)]
	for i := range elem {
		overwriteType(elem[i])
		elem[i] = text(-7)
	}
}

// What is done to one result is not seen in another one, whatever comes between.
func TestResultsAreNew(t *testing.T) {
	one, _, _ := schematext.Parse(canonical)
	again, _, _ := schematext.Parse(canonical)
	aType, _, _ := schematext.ParseType("list[4] of list[5] of A")
	sameAgain, _, _ := schematext.ParseType("list[4] of list[5] of A")
	overwrite(one)
	overwriteType(aType)
	if !same(again, example()) || !sameType(sameAgain, list(4, list(5, structType("A")))) {
		t.Errorf("%+v, %+v", again, sameAgain)
	}
	for _, s := range samples() {
		schematext.Parse(s)
		schematext.ParseType(s)
		parsed(t, canonical, example(), api.OK, 0)
		formatted(t, example(), canonical)
		parsedType(t, "list[4] of list[5] of A", list(4, list(5, structType("A"))), api.OK, 0)
	}
}

// No two lists of one result are the same memory: after what can be appended
// to or changed in one, the others are as before.
func TestListsOfResultsAreApart(t *testing.T) {
	const s = "version 1; enum M {m=0} enum N {m=0} struct A {1 a:list[2]of list[3]of M; 2 b:list[2]of list[3]of M;} struct B {1 a:list[2]of list[3]of M;}"
	want, _, _ := parse(s)
	got, _, _ := schematext.Parse(s)
	overwrite(api.Schema{Enums: got.Enums[:1:1], Structs: got.Structs[:1:1]})
	if !sameEnum(got.Enums[1], want.Enums[1]) || !sameStruct(got.Structs[1], want.Structs[1]) {
		t.Errorf("%+v", got)
	}
	got, _, _ = schematext.Parse(s)
	overwriteType(got.Structs[0].Fields[0].Type)
	got.Structs[0].Fields[0] = want.Structs[0].Fields[0]
	if !same(got, want) {
		t.Errorf("%+v", got)
	}
}
