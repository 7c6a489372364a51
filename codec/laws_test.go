package codec_test

import (
	"fmt"
	"math/rand"
	"slices"
	"strings"
	"testing"

	"robotics/api"
	"robotics/codec"
	"robotics/schema"
	"robotics/value"
)

// P11.6

func TestRoundTrip(t *testing.T) {
	kinds := map[int]int{}
	forValues(func(s api.Schema, name string, v api.Value) {
		b, e := codec.Encode(s, name, v)
		if e != api.OK {
			return
		}
		decoded(t, s, name, b, v)
		for _, f := range v.F {
			kinds[f.Value.Kind]++
		}
	})
	for kind := api.KBool; kind <= api.KEnum; kind++ {
		if kinds[kind] < 300 {
			t.Errorf("only %d fields of the kind %d are read back", kinds[kind], kind)
		}
	}
}

func TestRoundTripOfSamples(t *testing.T) {
	forSamples(func(s api.Schema, v api.Value, _ string) {
		b, _ := codec.Encode(s, "T", v)
		decoded(t, s, "T", b, v)
	})
}

func TestRoundTripOfNumbers(t *testing.T) {
	for _, of := range []string{"int8", "int16", "int32", "int64", "uint8", "uint16", "uint32"} {
		s := holding(of)
		zero := value.Zero(s, structType("T"))
		least, most := limits(held(s))
		for bits := range 64 {
			for _, n := range []int64{1<<bits - 1, 1 << bits, -1 << bits, -1<<bits + 1} {
				v := value.With(zero, 1, api.Value{Kind: held(s).Kind, N: n})
				if n < least || n > most {
					notEncoded(t, s, "T", v, api.ErrRange)
					continue
				}
				b, _ := codec.Encode(s, "T", v)
				decoded(t, s, "T", b, v)
			}
		}
	}
}

// limits returns the least and the greatest number of a type.
func limits(t api.Type) (int64, int64) {
	if t.Kind == api.KUint {
		return 0, 1<<t.Size - 1
	}
	return -1 << (t.Size - 1), 1<<(t.Size-1) - 1
}

// P11.7

// canonical checks that what Decode accepts is encoded as the same string, but
// for the fields that were skipped. It reports whether it is accepted.
func canonical(t *testing.T, s api.Schema, name, b string) bool {
	t.Helper()
	v, e := codec.Decode(s, name, b)
	if e != api.OK {
		return false
	}
	c, e := codec.Encode(s, name, v)
	if e != api.OK || len(c) > len(b) || len(c) == len(b) && c != b {
		t.Errorf("Decode(%q, %.100x) is encoded as %.100x, %v", name, b, c, e)
	}
	if _, skipped, _ := decode(s, name, b); len(c) == len(b) != (skipped == 0) {
		t.Errorf("Decode(%q, %.100x) skips %d fields, and is encoded as %.100x", name, b, skipped, c)
	}
	return true
}

func TestCanonicalForm(t *testing.T) {
	accepted := map[bool]int{}
	forBytes(func(s api.Schema, name, b string) { accepted[canonical(t, s, name, b)]++ })
	if accepted[true] < 5000 || accepted[false] < 5000 {
		t.Errorf("accepted and not: %v", accepted)
	}
}

func TestCanonicalFormOfShortStrings(t *testing.T) {
	s := schemaOf("struct In { 1 a: bool?; 3 b: bool; } struct T { 1 a: In; 2 b: list[2] of In?; 4 c: text[2]; }")
	accepted := 0
	for length := range 6 {
		forStrings("\x00\x01\x02\x03\x04\x05\xff", length, func(b string) {
			if canonical(t, s, "T", b) {
				accepted++
			}
		})
	}
	if accepted < 100 {
		t.Errorf("only %d strings are accepted", accepted)
	}
}

// P11.8

// allValues returns all values of a type whose texts have only these bytes, and
// whose numbers are from -2 to 2.
func allValues(s api.Schema, t api.Type, alphabet string) []api.Value {
	var all []api.Value
	add := func(v api.Value) {
		if value.Check(s, t, v) == api.OK {
			all = append(all, v)
		}
	}
	switch t.Kind {
	case api.KText:
		for length := range t.Size + 1 {
			forStrings(alphabet, length, func(b string) { add(word(b)) })
		}
	case api.KList:
		lists := [][]api.Value{nil}
		for range t.Size {
			for _, l := range slices.Clone(lists) {
				for _, x := range allValues(s, t.Elem[0], alphabet) {
					lists = append(lists, append(slices.Clone(l), x))
				}
			}
			lists = slices.CompactFunc(slices.SortedFunc(slices.Values(lists), compareLists), func(a, b []api.Value) bool { return compareLists(a, b) == 0 })
		}
		for _, l := range lists {
			add(items(l...))
		}
	case api.KStruct:
		x, _ := schema.Struct(s, t.Name)
		structs := []api.Value{record()}
		for _, f := range x.Fields {
			before := structs
			if !f.Optional {
				structs = nil
			}
			for _, v := range before {
				for _, y := range allValues(s, f.Type, alphabet) {
					structs = append(structs, value.With(v, f.Number, y))
				}
			}
		}
		for _, v := range structs {
			add(v)
		}
	default:
		for n := range int64(5) {
			add(api.Value{Kind: t.Kind, N: n - 2})
		}
	}
	return all
}

func compareLists(a, b []api.Value) int { return value.Compare(items(a...), items(b...)) }

// All values of small structs have encodings of their own, and are read back.
func TestEncodingsDiffer(t *testing.T) {
	for _, x := range []struct {
		text  string
		count int
	}{
		{"struct T { 1 a: bool; 2 b: bool?; 3 c: int8; 5 d: uint8?; }", 2 * 3 * 5 * 4},
		{"struct T { 1 a: list[3] of bool?; 2 b: list[2] of int8; }", (1 + 1 + 2 + 4 + 8) * (1 + 5 + 25)},
		{"struct T { 1 a: text[2]; 2 b: text[2]?; 4 c: text[1]?; }", 21 * 22 * 6},
		{"struct T { 1 a: list[2] of text[1]; 2 b: list[2] of list[2] of bool?; }", (1 + 5 + 25) * (1 + 1 + 7 + 49)},
		{"struct In { 1 a: bool; 2 b: bool?; } struct T { 1 a: In; 2 b: In?; 3 c: list[2] of In; }", 6 * 7 * (1 + 6 + 36)},
		{"enum E { a = 0, b = 2 } struct In { 1 a: E?; 127 b: E; } struct Mid { 1 a: In?; 2 b: list[1] of E?; } struct T { 3 a: Mid; 126 b: Mid?; }", 28 * 29},
	} {
		s := schemaOf(x.text)
		known := map[string]api.Value{}
		all := allValues(s, structType("T"), "\x00\x01a\x03")
		for _, v := range all {
			b, e := codec.Encode(s, "T", v)
			if other, ok := known[b]; e != api.OK || ok {
				t.Errorf("Encode(%+v) = %x, %v, as that of %+v", v, b, e, other)
			}
			known[b] = v
			decoded(t, s, "T", b, v)
		}
		if len(all) != x.count {
			t.Errorf("%s has %d values, not %d", x.text, len(all), x.count)
		}
	}
}

// Values of which a part differs have different encodings.
func TestEncodingsOfSimilarValuesDiffer(t *testing.T) {
	r := rand.New(rand.NewSource(5))
	compared := 0
	for range 500 {
		s := randomSchema(r)
		for _, x := range s.Structs {
			known := map[string]api.Value{}
			v := randomValue(r, s, structType(x.Name))
			for range 10 {
				b, e := codec.Encode(s, x.Name, v)
				if e != api.OK {
					break
				}
				if other, ok := known[b]; ok && !value.Equal(v, other) {
					t.Errorf("%x is the encoding of %+v and of %+v", b, v, other)
				}
				known[b] = v
				compared++
				if len(x.Fields) > 0 {
					f := pick(r, x.Fields...)
					v = value.With(v, f.Number, randomValue(r, s, f.Type))
				}
			}
		}
	}
	if compared < 5000 {
		t.Errorf("only %d values are compared", compared)
	}
}

// P11.9

// A field that the struct does not have, inserted at each place of an encoding,
// does not change the value.
func TestInsertedFields(t *testing.T) {
	insert := func(s api.Schema, name string, v api.Value) {
		b, e := encode(s, name, v)
		if e != api.OK {
			return
		}
		x, _ := schema.Struct(s, name)
		numbers, _, _ := fields(b)
		for _, before := range append(numbers, 1<<31) {
			for _, number := range []int{1, before - 1, before - 2, 1<<31 - 1, 128} {
				if _, ok := schema.FieldOf(x, number); ok || number < 1 || slices.Contains(numbers, number) {
					continue
				}
				for _, content := range []string{"", "\x00", "\xff\x00"} {
					decoded(t, s, name, withExtra(s, name, v, number, content), v)
				}
			}
		}
	}
	forSamples(func(s api.Schema, v api.Value, _ string) { insert(s, "T", v) })
	calls := 0
	forValues(func(s api.Schema, name string, v api.Value) {
		if calls++; calls%10 == 0 {
			insert(s, name, v)
		}
	})
}

// Up to 2000 bytes.
func TestLongInsertedFields(t *testing.T) {
	s := example()
	v := structOf(s, "P", `{x = -2, on = true, tags = ["a", ""]}`)
	for length := 1970; length <= 2000; length++ {
		content := strings.Repeat("\xff", length)
		for _, number := range []int{5, 127, 128, 1<<31 - 1} {
			b := withExtra(s, "P", v, number, content)
			if len(b) <= 2000 {
				decoded(t, s, "P", b, v)
			} else {
				refused(t, s, "P", b, api.ErrLong)
			}
		}
	}
}

// Any number of them, at the top and within structs.
func TestManyInsertedFields(t *testing.T) {
	r := rand.New(rand.NewSource(6))
	inserted := 0
	for range 1000 {
		s := randomSchema(r)
		for _, x := range s.Structs {
			v := randomValue(r, s, structType(x.Name))
			w := exact(s)
			w.extra = func(x api.Struct, after, before int) string { return extraFields(r, x, after, before) }
			// Within a struct that is omitted there is no place for a field.
			if b := w.content(structType(x.Name), v); len(b) <= 2000 {
				decoded(t, s, x.Name, b, v)
				inserted++
			}
		}
	}
	if inserted < 4000 {
		t.Errorf("only %d encodings have at most 2000 bytes", inserted)
	}
}

// R1

// callAll calls all functions with some arguments.
func callAll(s api.Schema, name string, v api.Value, b string, number int) {
	codec.Encode(s, name, v)
	codec.Size(s, name, v)
	codec.Decode(s, name, b)
	codec.Fields(b)
	codec.Raw(b, number)
}

func TestStrangeArguments(t *testing.T) {
	values := []api.Value{
		{}, {Kind: -1}, {Kind: 99, N: least}, number(least), word(strings.Repeat("\xff", 1<<20)), items(), record(),
		{Kind: api.KStruct, N: 1, S: "a", L: []api.Value{{}}, F: []api.Entry{{}}},
		record(entry(-1, number(1)), entry(0, number(1)), entry(1, number(1)), entry(most, record())),
		record(entry(1, items(record(entry(1, items(record())))))),
		record(entry(1, items(items(items(items(items(items(number(1))))))))),
		items(make([]api.Value, 1<<16)...),
		record(make([]api.Entry, 1<<16)...),
		nested(1<<16-2, number(1)),
	}
	deep := number(1)
	for range 1<<16 - 2 {
		deep = record(entry(1, deep))
	}
	values = append(values, deep)
	endless := items(number(1))
	endless.L[0] = endless
	values = append(values, endless, record(entry(3, endless)))
	texts := []string{"", "\x00", "\xff", "\x01\x00", "\x01\x01\x01", strings.Repeat("\x01", 2000), strings.Repeat("\x80", 2000), strings.Repeat("\xff", 1<<20)}
	for _, x := range faults() {
		texts = append(texts, fieldOf(1, bytes(x.content)))
	}
	for _, s := range strangeSchemas() {
		for _, name := range append(unknownNames(), "P", "Point", "Arm", "Long", "S1") {
			for _, v := range values {
				codec.Encode(s, name, v)
				codec.Size(s, name, v)
			}
			for i, b := range texts {
				codec.Decode(s, name, b)
				codec.Fields(b)
				codec.Raw(b, i-5)
			}
		}
	}
	callAll(api.Schema{Version: least, Structs: make([]api.Struct, 1<<16), Enums: make([]api.Enum, 1<<16)}, "", api.Value{}, "", least)
}

func TestRandomBytes(t *testing.T) {
	s := example()
	r := rand.New(rand.NewSource(7))
	for range 3000 {
		b := randomBytes(r, r.Intn(60))
		for _, name := range []string{"Long", "Arm", "S1", "Empty"} {
			agreed(t, s, name, b)
		}
	}
}

// R2

// Together with an error, nothing of what was read is returned. (The checks of
// results are used by all tests; this one counts the errors.)
func TestNothingWithAnError(t *testing.T) {
	errors := 0
	forBytes(func(s api.Schema, name, b string) {
		if v, e := codec.Decode(s, name, b); e != api.OK {
			errors++
			if !value.Equal(v, api.Value{}) {
				t.Errorf("Decode(%q, %.100x) = %+v, %v", name, b, v, e)
			}
		}
		numbers, e := codec.Fields(b)
		if e != api.OK && len(numbers) > 0 {
			t.Errorf("Fields(%.100x) = %v, %v", b, numbers, e)
		}
		for number := range 10 {
			if content, ok := codec.Raw(b, number); !ok && content != "" || ok && e != api.OK {
				t.Errorf("Raw(%.100x, %d) = %.100x, %v", b, number, content, ok)
			}
		}
	})
	if errors < 5000 {
		t.Errorf("only %d strings have an error", errors)
	}
}

// R3

// spacious returns the same value, with lists that have spare capacity.
func spacious(v api.Value) api.Value {
	l, f := make([]api.Value, 0, len(v.L)+3), make([]api.Entry, 0, len(v.F)+3)
	for _, x := range v.L {
		l = append(l, spacious(x))
	}
	for _, x := range v.F {
		f = append(f, entry(x.Number, spacious(x.Value)))
	}
	v.L, v.F = l, f
	return v
}

// everything returns a text of a value with all of its spare capacity.
func everything(v api.Value) string {
	text := fmt.Sprint(v.Kind, v.N, v.S, "[")
	for _, x := range v.L[:cap(v.L)] {
		text += everything(x) + ","
	}
	text += "]{"
	for _, f := range v.F[:cap(v.F)] {
		text += fmt.Sprint(f.Number, everything(f.Value), ",")
	}
	return text + "}"
}

// spaciousSchema returns the same schema, with spare capacity everywhere.
func spaciousSchema(s api.Schema) api.Schema {
	s.Enums, s.Structs = slices.Grow(s.Enums, 5), slices.Grow(s.Structs, 5)
	for i := range s.Enums {
		x := &s.Enums[i]
		x.Names, x.Numbers = slices.Grow(x.Names, 5), slices.Grow(x.Numbers, 5)
	}
	for i := range s.Structs {
		s.Structs[i].Fields = slices.Grow(s.Structs[i].Fields, 5)
		for k := range s.Structs[i].Fields {
			f := &s.Structs[i].Fields[k]
			f.Type.Elem = slices.Grow(f.Type.Elem, 2)
		}
	}
	return s
}

// wholeSchema returns a text of a schema with all of its spare capacity.
func wholeSchema(s api.Schema) string {
	text := fmt.Sprint(s.Version, s.Enums[:cap(s.Enums)], s.Structs[:cap(s.Structs)])
	for _, x := range s.Enums {
		text += fmt.Sprint(x.Names[:cap(x.Names)], x.Numbers[:cap(x.Numbers)])
	}
	for _, x := range s.Structs {
		text += fmt.Sprint(x.Fields[:cap(x.Fields)])
		for _, f := range x.Fields {
			text += fmt.Sprint(f.Type.Elem[:cap(f.Type.Elem)])
		}
	}
	return text
}

func TestArgumentsAreNotModified(t *testing.T) {
	forSamples(func(s api.Schema, v api.Value, b string) {
		s, v = spaciousSchema(s), spacious(v)
		schemaBefore, before := wholeSchema(s), everything(v)
		callAll(s, "T", v, b, 3)
		callAll(s, "T", v, b+"\x00", 3)
		callAll(s, "Point", v, b, 3)
		if after := everything(v); after != before {
			t.Errorf("%s has become %s", before, after)
		}
		if after := wholeSchema(s); after != schemaBefore {
			t.Errorf("%s has become %s", schemaBefore, after)
		}
	})
}

// overwrite changes all of the lists of a value, with their spare capacity.
func overwrite(v api.Value) {
	l, f := v.L[:cap(v.L)], v.F[:cap(v.F)]
	for i := range l {
		overwrite(l[i])
		l[i] = word("overwritten")
	}
	for i := range f {
		overwrite(f[i].Value)
		f[i] = entry(999, word("overwritten"))
	}
}

// What is done to one result is not seen in another one, nor in the schema.
func TestResultsAreNew(t *testing.T) {
	forSamples(func(s api.Schema, v api.Value, b string) {
		s = spaciousSchema(s)
		before := wholeSchema(s)
		one, _ := codec.Decode(s, "T", b)
		again, _ := codec.Decode(s, "T", b)
		overwrite(one)
		if !value.Equal(again, v) || wholeSchema(s) != before {
			t.Errorf("of %x: %+v, %s", b, again, wholeSchema(s))
		}
		decoded(t, s, "T", b, v)

		numbers, _ := codec.Fields(b)
		others, _ := codec.Fields(b)
		want := slices.Clone(others)
		for i := range numbers {
			numbers[i] = -1
		}
		if got, _ := codec.Fields(b); !slices.Equal(got, want) || !slices.Equal(others, want) {
			t.Errorf("Fields(%x) = %v and %v, want %v", b, others, got, want)
		}
	})
}

// Values that were encoded may be changed.
func TestEncodingsStay(t *testing.T) {
	forSamples(func(s api.Schema, v api.Value, b string) {
		v = spacious(v)
		got, _ := codec.Encode(s, "T", v)
		overwrite(v)
		if got != b {
			t.Errorf("%x has become %x", b, got)
		}
	})
}

// No two lists of one result share memory.
func TestListsOfResultsAreApart(t *testing.T) {
	forSamples(func(s api.Schema, _ api.Value, b string) {
		v, _ := codec.Decode(s, "T", b)
		seen := map[any]bool{}
		var visit func(v api.Value)
		visit = func(v api.Value) {
			l, f := v.L[:cap(v.L)], v.F[:cap(v.F)]
			for i := range l {
				if seen[&l[i]] {
					t.Errorf("two lists of %+v share memory", v)
				}
				seen[&l[i]] = true
				visit(l[i])
			}
			for i := range f {
				if seen[&f[i]] {
					t.Errorf("two structs of %+v share memory", v)
				}
				seen[&f[i]] = true
				visit(f[i].Value)
			}
		}
		visit(v)
	})
}

// R7

// Nothing of a call is kept.
func TestCallsAreIndependent(t *testing.T) {
	s := example()
	v := structOf(s, "P", `{x = -2, on = true, tags = ["a", ""]}`)
	b := bytes("01 01 03  02 01 01  03 04 02 01 61 00")
	check := func() {
		t.Helper()
		encoded(t, s, "P", v, b)
		decoded(t, s, "P", b, v)
		listedFields(t, b, []int{1, 2, 3}, []string{"\x03", "\x01", bytes("02 01 61 00")})
	}
	forSamples(func(s api.Schema, v api.Value, b string) {
		callAll(s, "T", v, b, 1)
		check()
	})
	for _, x := range faults() {
		callAll(s, "P", v, fieldOf(1, bytes(x.content)), 1)
		check()
	}
}
