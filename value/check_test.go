package value_test

import (
	"slices"
	"strings"
	"testing"

	"robotics/api"
	"robotics/schema"
)

// P9.1

func TestCheckExample(t *testing.T) {
	exampleChecked(t, integer(8), number(127), api.OK)
	exampleChecked(t, integer(8), number(128), api.ErrRange)
	exampleChecked(t, integer(8), word("a"), api.ErrType)
}

// The oracle finds each error often enough.
func TestCheck(t *testing.T) {
	seen := map[api.Errno]int{}
	forValues(func(s api.Schema, x api.Type, v api.Value) {
		want := check(s, x, v)
		checked(t, s, x, v, want)
		seen[want]++
	})
	for _, e := range []api.Errno{api.OK, api.ErrDepth, api.ErrType, api.ErrRange, api.ErrLong} {
		if seen[e] < 50 {
			t.Errorf("only %d values with %v", seen[e], e)
		}
	}
}

func TestExampleIsValid(t *testing.T) {
	for _, s := range []api.Schema{example(), chain()} {
		if e := schema.Check(s); e != api.OK {
			t.Errorf("%+v: %v", s, e)
		}
	}
	exampleChecked(t, structType("Arm"), arm(), api.OK)
}

// arm returns a value of the example, with all its fields.
func arm() api.Value {
	tag := record(entry(1, choice(5)))
	pose := record(entry(1, number(-3)), entry(3, items(tag, record(entry(1, choice(127))))), entry(4, word("abc")), entry(127, truth(1)))
	return record(entry(2, pose), entry(9, tag), entry(10, items(items(natural(1), natural(255)), items(), items(natural(7)))))
}

// Levels

// deep returns ErrDepth for more than MaxDepth levels, and otherwise e.
func deep(levels int, e api.Errno) api.Errno {
	if levels > 6 {
		return api.ErrDepth
	}
	return e
}

func TestLevelsOfListsAndStructs(t *testing.T) {
	for n := range 20 {
		exampleChecked(t, lists(n, boolean()), nested(n, truth(1)), deep(n, api.OK))
		exampleChecked(t, lists(n+1, boolean()), nested(n, items()), deep(n+1, api.OK))
		exampleChecked(t, lists(n, structType("Tag")), nested(n, record(entry(1, choice(0)))), deep(n+1, api.OK))
		exampleChecked(t, lists(n, structType("Empty")), nested(n, record()), deep(n+1, api.OK))
		exampleChecked(t, lists(n+1, integer(8)), nested(n, items(number(1), number(2))), deep(n+1, api.OK))
	}
	for n := range 6 {
		checked(t, chain(), structType("S1"), recorded(n, record()), api.OK)
		checked(t, chain(), list(1, structType("S1")), items(recorded(n, record())), deep(n+2, api.OK))
	}
	checked(t, chain(), structType("S1"), recorded(6, truth(1)), api.OK)
	checked(t, chain(), structType("S1"), recorded(6, record()), api.ErrDepth)
	checked(t, chain(), structType("S1"), recorded(7, truth(1)), api.ErrDepth)
	checked(t, chain(), structType("S1"), recorded(5, items(truth(1))), api.ErrType)
	checked(t, chain(), structType("S1"), recorded(6, items(truth(1))), api.ErrDepth)
}

// The levels count where the deepest value is, whatever there is beside it.
func TestPlacesOfLevels(t *testing.T) {
	x := lists(10, boolean())
	for n := range 9 {
		exampleChecked(t, x, items(nested(n, items()), items()), deep(n+2, api.OK))
		exampleChecked(t, x, items(items(), nested(n, items())), deep(n+2, api.OK))
		exampleChecked(t, list(1, x), items(items(), nested(n, items())), deep(n+2, api.ErrLong))
		pose := record(entry(1, number(300)), entry(3, nested(n, items())))
		exampleChecked(t, structType("Pose"), pose, deep(n+2, api.ErrType))
		arm := record(entry(2, nested(n, items())), entry(10, items()))
		exampleChecked(t, structType("Arm"), arm, deep(n+2, api.ErrType))
	}
}

// Levels stand also in fields that the kind does not use.
func TestLevelsInUnusedFields(t *testing.T) {
	for n := range 9 {
		for _, inner := range []api.Value{nested(n, number(1)), recorded(n, number(1))} {
			inList, inEntry := []api.Value{inner}, []api.Entry{entry(1, inner)}
			for kind := -1; kind < 9; kind++ {
				for _, v := range []api.Value{{Kind: kind, L: inList}, {Kind: kind, F: inEntry}, {Kind: kind, L: inList, F: inEntry}} {
					e := api.ErrType
					if kind == api.KList && len(v.F) == 0 {
						e = check(example(), lists(6, integer(8)), v)
					}
					exampleChecked(t, lists(6, integer(8)), v, deep(n+1, e))
					exampleChecked(t, boolean(), v, deep(n+1, api.ErrType))
					exampleChecked(t, list(2, boolean()), items(truth(1), v), deep(n+2, api.ErrType))
					exampleChecked(t, structType("Tag"), record(entry(1, v)), deep(n+2, api.ErrType))
				}
			}
		}
	}
}

// Too many levels come before everything else.
func TestLevelsComeFirst(t *testing.T) {
	for _, x := range append(badTypes(), boolean(), list(1, boolean()), structType("Tag")) {
		exampleChecked(t, x, nested(6, truth(1)), deep(6, api.ErrType))
		exampleChecked(t, x, nested(7, truth(1)), api.ErrDepth)
		exampleChecked(t, x, items(number(5), number(5), nested(6, word("abc"))), api.ErrDepth)
		exampleChecked(t, x, recorded(7, truth(1)), api.ErrDepth)
	}
}

// Numbers

func TestRanges(t *testing.T) {
	for _, x := range []struct {
		of     api.Type
		make   func(int64) api.Value
		lo, hi int64
	}{
		{boolean(), truth, 0, 1},
		{integer(8), number, -128, 127},
		{integer(16), number, -32768, 32767},
		{integer(32), number, -2147483648, 2147483647},
		{integer(64), number, least, most},
		{unsigned(8), natural, 0, 255},
		{unsigned(16), natural, 0, 65535},
		{unsigned(32), natural, 0, 4294967295},
	} {
		for _, n := range []int64{x.lo, x.lo + 1, 0, 1, x.hi / 2, x.hi - 1, x.hi} {
			exampleChecked(t, x.of, x.make(n), api.OK)
			exampleChecked(t, list(1, x.of), items(x.make(n)), api.OK)
		}
		if x.of.Size == 64 {
			continue
		}
		for _, n := range []int64{least, least + 1, x.lo - 2, x.lo - 1, x.hi + 1, x.hi + 2, 1 << 32, 1<<32 + 1, 1 << 40, -1 << 40, most - 1, most} {
			exampleChecked(t, x.of, x.make(n), api.ErrRange)
			exampleChecked(t, list(1, x.of), items(x.make(n)), api.ErrRange)
		}
	}
}

func TestNumbersOfEnumerations(t *testing.T) {
	for n := int64(-200); n < 300; n++ {
		want, only := api.ErrRange, api.ErrRange
		if n == 0 || n == 5 || n == 127 {
			want = api.OK
		}
		if n == 0 {
			only = api.OK
		}
		exampleChecked(t, enumType("Mode"), choice(n), want)
		exampleChecked(t, enumType("Only"), choice(n), only)
		exampleChecked(t, structType("Tag"), record(entry(1, choice(n))), want)
	}
	for _, n := range []int64{least, least + 5, -1 << 32, 1 << 32, 1<<32 + 5, 1<<62 + 5, most} {
		exampleChecked(t, enumType("Mode"), choice(n), api.ErrRange)
	}
}

// Lengths

// long returns ErrLong if a length is greater than a size.
func long(length, size int) api.Errno {
	if length > size {
		return api.ErrLong
	}
	return api.OK
}

func TestLengthsOfTexts(t *testing.T) {
	for _, size := range []int{1, 2, 3, 31, 200, 1999, 2000} {
		for _, length := range []int{0, 1, size - 1, size, size + 1, size + 2, 2 * size, 5000} {
			for _, c := range []string{"a", "\x00", "\xff"} {
				exampleChecked(t, text(size), word(strings.Repeat(c, length)), long(length, size))
			}
		}
	}
	// Bytes count, not characters.
	exampleChecked(t, text(1), word("\u00e4"), api.ErrLong)
	exampleChecked(t, text(2), word("\u00e4"), api.OK)
	exampleChecked(t, text(3), word("\U0001f916"), api.ErrLong)
	exampleChecked(t, text(4), word("\U0001f916"), api.OK)
}

func TestLengthsOfLists(t *testing.T) {
	for _, size := range []int{1, 2, 3, 31, 32} {
		for _, length := range []int{0, 1, size - 1, size, size + 1, size + 2, 2 * size, 1000} {
			exampleChecked(t, list(size, boolean()), items(slices.Repeat([]api.Value{truth(1)}, length)...), long(length, size))
			exampleChecked(t, list(size, list(1, text(1))), items(slices.Repeat([]api.Value{items()}, length)...), long(length, size))
		}
		exampleChecked(t, list(size, boolean()), api.Value{Kind: api.KList, L: []api.Value{}}, api.OK)
	}
}

// Kinds

// ofEachKind returns a permitted type of each kind, and a value of it that
// differs from its zero value.
func ofEachKind() ([]api.Type, []api.Value) {
	return []api.Type{boolean(), integer(16), unsigned(16), text(9), list(3, boolean()), structType("Tag"), enumType("Mode")},
		[]api.Value{truth(1), number(1), natural(1), word("a"), items(truth(1)), record(entry(1, choice(5))), choice(5)}
}

func TestKinds(t *testing.T) {
	types, values := ofEachKind()
	for i, x := range types {
		for k, v := range values {
			want := api.ErrType
			if i == k {
				want = api.OK
			}
			exampleChecked(t, x, v, want)
			exampleChecked(t, list(1, x), items(v), want)
			s := structs(structure("Tag", field(1, boolean())), structure("A", field(7, x)))
			s.Enums = example().Enums
			if i != 5 {
				checked(t, s, structType("A"), record(entry(7, v)), want)
			}
			for _, kind := range []int{least, -1, 0, 8, 9, x.Kind + 7, x.Kind << 32, x.Kind + 1<<32, most} {
				v.Kind = kind
				exampleChecked(t, x, v, api.ErrType)
			}
		}
		exampleChecked(t, x, api.Value{}, api.ErrType)
	}
}

// used returns the name of the field that a kind uses.
func used(kind int) string {
	switch kind {
	case api.KText:
		return "S"
	case api.KList:
		return "L"
	case api.KStruct:
		return "F"
	}
	return "N"
}

// What a value has that its kind does not use is an error, also if it is a
// value or an entry of zeros.
func TestUnusedFields(t *testing.T) {
	types, values := ofEachKind()
	for _, c := range []struct {
		field string
		more  func(*api.Value)
	}{
		{"N", func(v *api.Value) { v.N = 1 }},
		{"N", func(v *api.Value) { v.N = least }},
		{"S", func(v *api.Value) { v.S = "a" }},
		{"S", func(v *api.Value) { v.S = "\x00" }},
		{"L", func(v *api.Value) { v.L = []api.Value{truth(1)} }},
		{"L", func(v *api.Value) { v.L = []api.Value{{}} }},
		{"F", func(v *api.Value) { v.F = []api.Entry{entry(1, choice(5))} }},
		{"F", func(v *api.Value) { v.F = []api.Entry{{}} }},
	} {
		for i, x := range types {
			if c.field == used(x.Kind) {
				continue
			}
			v := values[i]
			c.more(&v)
			exampleChecked(t, x, v, api.ErrType)
			exampleChecked(t, list(2, x), items(values[i], v), api.ErrType)
		}
	}
}

// Lists without elements are as good as nil.
func TestUnusedFieldsThatAreEmpty(t *testing.T) {
	types, values := ofEachKind()
	for i, x := range types {
		v := values[i]
		if len(v.L) == 0 {
			v.L = []api.Value{}
		}
		if len(v.F) == 0 {
			v.F = []api.Entry{}
		}
		exampleChecked(t, x, v, api.OK)
	}
}

// Types

// badTypes returns types that are not permitted in the example.
func badTypes() []api.Type {
	all := []api.Type{
		{}, {Kind: -1}, {Kind: 8}, {Kind: most}, {Kind: least}, {Kind: api.KInt + 1<<32, Size: 8}, {Size: 8}, {Name: "Tag"},
		integer(0), integer(-8), integer(1), integer(7), integer(9), integer(24), integer(63), integer(65), integer(128), integer(8 + 1<<32), integer(least), integer(most),
		unsigned(0), unsigned(-8), unsigned(1), unsigned(24), unsigned(33), unsigned(64), unsigned(128), unsigned(most),
		text(0), text(-1), text(2001), text(least), text(most), text(1 + 1<<32),
		list(0, boolean()), list(-1, boolean()), list(33, boolean()), list(least, boolean()), list(most, boolean()),
		list(2), list(2, boolean(), boolean()), list(2, boolean(), integer(8), text(1)),
		structType(""), structType("tag"), structType("Ta"), structType("Tags"), structType("Mode"), structType("Other"), structType("\xff"),
		enumType(""), enumType("mode"), enumType("Mod"), enumType("Modes"), enumType("Tag"), enumType("Other"),
		{Kind: api.KBool, Size: 1}, {Kind: api.KBool, Size: 8}, {Kind: api.KStruct, Name: "Tag", Size: 1}, {Kind: api.KEnum, Name: "Mode", Size: 1},
		{Kind: api.KStruct, Name: "Tag", Size: -1}, {Kind: api.KEnum, Name: "Mode", Size: least},
	}
	types, _ := ofEachKind()
	for _, x := range types {
		if x.Name == "" {
			x.Name = "Tag"
			all = append(all, x)
			x.Name = ""
		}
		if len(x.Elem) == 0 {
			x.Elem = []api.Type{boolean()}
			all = append(all, x)
		}
	}
	return all
}

// forBadTypes calls check with types that are not permitted, also because of
// an element.
func forBadTypes(check func(x api.Type)) {
	for _, x := range badTypes() {
		check(x)
		check(list(2, x))
		check(lists(5, x))
		check(lists(20, x))
	}
}

func TestTypesThatAreNotPermitted(t *testing.T) {
	forBadTypes(func(x api.Type) {
		if permitted(example(), x) {
			t.Errorf("%+v is permitted", x)
		}
		exampleChecked(t, x, api.Value{Kind: x.Kind}, deep(levels(api.Value{Kind: x.Kind}), api.ErrType))
		for _, v := range []api.Value{truth(1), number(1), natural(1), word("a"), items(), items(truth(1)), record(), record(entry(1, choice(5))), choice(0), {}} {
			exampleChecked(t, x, v, api.ErrType)
		}
		// The type is an error of the list, even where nothing is in it.
		exampleChecked(t, list(2, x), items(), api.ErrType)
	})
}

// A type of the schema is permitted however deep the struct would be that had
// it in a field.
func TestTypesThatArePermitted(t *testing.T) {
	types, values := ofEachKind()
	for i, x := range types {
		exampleChecked(t, x, values[i], api.OK)
		exampleChecked(t, lists(6, x), nested(5, items()), api.OK)
		exampleChecked(t, lists(50, x), nested(5, items()), api.OK)
	}
	for _, x := range []api.Type{integer(8), integer(16), integer(32), integer(64)} {
		exampleChecked(t, x, number(1), api.OK)
	}
	for _, x := range []api.Type{unsigned(8), unsigned(16), unsigned(32)} {
		exampleChecked(t, x, natural(1), api.OK)
	}
	for _, name := range []string{"S1", "S2", "S6"} {
		checked(t, chain(), structType(name), record(), api.OK)
		checked(t, chain(), list(2, structType(name)), items(record(), record()), api.OK)
	}
	withElem := boolean()
	withElem.Elem = []api.Type{}
	exampleChecked(t, withElem, truth(1), api.OK)
}

// Structs

func TestEntriesOfStructs(t *testing.T) {
	x, name, tags, on := entry(1, number(7)), entry(4, word("a")), entry(3, items(record(entry(1, choice(5))))), entry(127, truth(1))
	for _, c := range []struct {
		f    []api.Entry
		want api.Errno
	}{
		{[]api.Entry{x, name}, api.OK},
		{[]api.Entry{x, tags, name}, api.OK},
		{[]api.Entry{x, name, on}, api.OK},
		{[]api.Entry{x, tags, name, on}, api.OK},
		// not ascending
		{[]api.Entry{name, x}, api.ErrType},
		{[]api.Entry{x, name, tags}, api.ErrType},
		{[]api.Entry{tags, x, name}, api.ErrType},
		{[]api.Entry{x, tags, on, name}, api.ErrType},
		{[]api.Entry{on, x, name}, api.ErrType},
		// twice
		{[]api.Entry{x, x, name}, api.ErrType},
		{[]api.Entry{x, name, name}, api.ErrType},
		{[]api.Entry{x, tags, tags, name}, api.ErrType},
		{[]api.Entry{x, name, on, on}, api.ErrType},
		{[]api.Entry{x, name, x}, api.ErrType},
		// of no field
		{[]api.Entry{entry(0, truth(1)), x, name}, api.ErrType},
		{[]api.Entry{entry(-1, truth(1)), x, name}, api.ErrType},
		{[]api.Entry{entry(least, truth(1)), x, name}, api.ErrType},
		{[]api.Entry{x, entry(2, truth(1)), name}, api.ErrType},
		{[]api.Entry{x, name, entry(5, truth(1))}, api.ErrType},
		{[]api.Entry{x, name, entry(126, truth(1)), on}, api.ErrType},
		{[]api.Entry{x, name, on, entry(128, truth(1))}, api.ErrType},
		{[]api.Entry{x, name, entry(most, truth(1))}, api.ErrType},
		{[]api.Entry{x, name, entry(1<<32+4, truth(1))}, api.ErrType},
		// without one that is not optional
		{nil, api.ErrType},
		{[]api.Entry{x}, api.ErrType},
		{[]api.Entry{name}, api.ErrType},
		{[]api.Entry{tags, on}, api.ErrType},
		{[]api.Entry{x, tags, on}, api.ErrType},
		{[]api.Entry{tags, name, on}, api.ErrType},
	} {
		exampleChecked(t, structType("Pose"), record(c.f...), c.want)
		exampleChecked(t, list(1, structType("Pose")), items(record(c.f...)), c.want)
		exampleChecked(t, structType("Arm"), record(entry(2, record(c.f...)), entry(10, items())), c.want)
	}
}

func TestStructsWithoutFieldsThatMustBeThere(t *testing.T) {
	one, two := entry(1, number(1)), entry(2, word(""))
	for _, f := range [][]api.Entry{nil, {}, {one}, {two}, {one, two}} {
		exampleChecked(t, structType("Free"), record(f...), api.OK)
	}
	for _, f := range [][]api.Entry{{two, one}, {one, one}, {two, two}, {entry(3, word(""))}, {entry(0, word("")), one}, {one, two, entry(3, number(1))}} {
		exampleChecked(t, structType("Free"), record(f...), api.ErrType)
	}
	exampleChecked(t, structType("Empty"), record(), api.OK)
	exampleChecked(t, structType("Empty"), record(one), api.ErrType)
	exampleChecked(t, structType("Empty"), record(entry(0, api.Value{})), api.ErrType)
}

// Order of errors

// wrong returns values of int8 or text[3], each with the error that it has.
func wrong(of api.Type) map[api.Errno]api.Value {
	if of.Kind == api.KInt {
		return map[api.Errno]api.Value{api.ErrType: truth(1), api.ErrRange: number(128), api.OK: number(0)}
	}
	return map[api.Errno]api.Value{api.ErrType: truth(1), api.ErrLong: word("abcd"), api.OK: word("abc")}
}

// firstOf returns the first of some errors that is not OK.
func firstOf(all ...api.Errno) api.Errno {
	for _, e := range all {
		if e != api.OK {
			return e
		}
	}
	return api.OK
}

func TestOrderOfErrorsOfElementsAndEntries(t *testing.T) {
	for _, x := range []api.Type{integer(8), text(3)} {
		for e, v := range wrong(x) {
			for d, w := range wrong(x) {
				exampleChecked(t, list(2, x), items(v, w), firstOf(e, d))
				exampleChecked(t, list(1, x), items(v, w), api.ErrLong)
				exampleChecked(t, lists(2, x), items(items(v), items(w)), firstOf(e, d))
				exampleChecked(t, lists(2, x), items(items(v, w), items(w, v, v)), firstOf(e, d, api.ErrLong))
				exampleChecked(t, lists(2, x), items(items(w, v, v), items(v, w)), api.ErrLong)
			}
		}
	}
	for e, v := range wrong(integer(8)) {
		for d, w := range wrong(text(3)) {
			exampleChecked(t, structType("Free"), record(entry(1, v), entry(2, w)), firstOf(e, d))
			exampleChecked(t, structType("Pose"), record(entry(1, v), entry(4, w)), firstOf(e, d))
			exampleChecked(t, structType("Pose"), record(entry(1, v), entry(4, w), entry(5, w)), api.ErrType)
			exampleChecked(t, structType("Pose"), record(entry(1, v)), api.ErrType)
			exampleChecked(t, structType("Pose"), record(entry(4, w), entry(1, v)), api.ErrType)
			pose := record(entry(1, v), entry(4, w))
			exampleChecked(t, list(2, structType("Pose")), items(pose, items()), firstOf(e, d, api.ErrType))
			exampleChecked(t, list(2, structType("Pose")), items(items(), pose), api.ErrType)
			exampleChecked(t, list(1, structType("Pose")), items(pose, items()), api.ErrLong)
		}
	}
}

// Of several errors of one value, ErrType comes first, and all of them come
// before those of the values within it.
func TestOrderOfErrorsOfOneValue(t *testing.T) {
	for _, c := range []struct {
		of   api.Type
		v    api.Value
		want api.Errno
	}{
		{integer(8), api.Value{Kind: api.KInt, N: 128, S: "a"}, api.ErrType},
		{integer(8), api.Value{Kind: api.KInt, N: 128, L: []api.Value{word("a")}}, api.ErrType},
		{integer(9), number(most), api.ErrType},
		{boolean(), natural(2), api.ErrType},
		{boolean(), api.Value{Kind: api.KBool, N: -1, F: []api.Entry{entry(1, word("a"))}}, api.ErrType},
		{enumType("None"), choice(1), api.ErrType},
		{enumType("Mode"), api.Value{Kind: api.KEnum, N: 1, S: "a"}, api.ErrType},
		{text(1), api.Value{Kind: api.KText, N: 1, S: "ab"}, api.ErrType},
		{text(0), word("ab"), api.ErrType},
		{list(1, boolean()), api.Value{Kind: api.KList, S: "a", L: []api.Value{truth(2), truth(2)}}, api.ErrType},
		{list(1, boolean()), api.Value{Kind: api.KList, L: []api.Value{truth(2), truth(2)}, F: []api.Entry{{}}}, api.ErrType},
		{list(1, boolean()), items(truth(2), word("")), api.ErrLong},
		{list(1, boolean()), items(word(""), truth(2)), api.ErrLong},
		{list(2, boolean()), items(word(""), truth(2)), api.ErrType},
		{list(2, boolean()), items(truth(2), word("")), api.ErrRange},
		{list(33, boolean()), items(truth(2)), api.ErrType},
		{list(2, integer(9)), items(number(most)), api.ErrType},
		{structType("Free"), api.Value{Kind: api.KStruct, N: 1, F: []api.Entry{entry(1, number(128))}}, api.ErrType},
		{structType("Free"), record(entry(1, number(128)), entry(3, number(1))), api.ErrType},
		{structType("Free"), record(entry(1, number(128)), entry(2, number(1))), api.ErrRange},
		{structType("Free"), record(entry(1, number(127)), entry(2, word("abcd"))), api.ErrLong},
		{structType("None"), record(entry(1, number(128))), api.ErrType},
	} {
		exampleChecked(t, c.of, c.v, c.want)
	}
}

// What is within the first element comes before the second one.
func TestOrderIsPreorder(t *testing.T) {
	within := record(entry(1, number(0)), entry(3, items(record(entry(1, choice(1))))), entry(4, word("abcd")))
	later := record(entry(1, number(0)), entry(4, word("abcd")))
	missing := record(entry(1, number(0)))
	exampleChecked(t, list(2, structType("Pose")), items(within, missing), api.ErrRange)
	exampleChecked(t, list(2, structType("Pose")), items(later, missing), api.ErrLong)
	exampleChecked(t, list(2, structType("Pose")), items(later, within), api.ErrLong)
	exampleChecked(t, list(2, structType("Pose")), items(missing, within), api.ErrType)
	exampleChecked(t, structType("Arm"), record(entry(2, within), entry(9, missing), entry(10, items())), api.ErrRange)
	exampleChecked(t, structType("Arm"), record(entry(2, later), entry(10, items(items(natural(256))))), api.ErrLong)
	exampleChecked(t, structType("Arm"), record(entry(2, arm().F[0].Value), entry(9, missing), entry(10, items(items(natural(256))))), api.ErrType)
	exampleChecked(t, structType("Arm"), record(entry(2, arm().F[0].Value), entry(10, items(items(natural(256)), items(), items(), items()))), api.ErrLong)
	exampleChecked(t, structType("Arm"), record(entry(2, arm().F[0].Value), entry(10, items(items(natural(256)), number(1)))), api.ErrRange)
}
