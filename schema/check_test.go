package schema_test

import (
	"fmt"
	"slices"
	"strings"
	"testing"

	"robotics/api"
	"robotics/schema"
)

// P7.1

func TestCheckExamples(t *testing.T) {
	checked(t, example(), api.OK)
	checked(t, changed(func(s *api.Schema) { s.Enums = append(s.Enums, mode("Mode")) }), api.ErrExists)
	checked(t, changed(func(s *api.Schema) { s.Structs[1].Fields[0].Number, s.Structs[1].Fields[1].Number = 3, 1 }), api.ErrFormat)
	checked(t, changed(func(s *api.Schema) { s.Structs[0].Fields[0].Type = structType("Pose") }), api.ErrCycle)
}

// The oracle finds each error often enough.
func TestCheck(t *testing.T) {
	seen := map[api.Errno]int{}
	forSchemas(func(s api.Schema) {
		want := check(s)
		checked(t, s, want)
		seen[want]++
	})
	for _, e := range []api.Errno{api.OK, api.ErrRange, api.ErrLong, api.ErrName, api.ErrExists, api.ErrFormat, api.ErrType, api.ErrCycle, api.ErrDepth} {
		if seen[e] < 20 {
			t.Errorf("only %d schemas with %v", seen[e], e)
		}
	}
}

func TestVersions(t *testing.T) {
	for version, want := range map[int]api.Errno{
		least: api.ErrRange, -1: api.ErrRange, 0: api.ErrRange, 1: api.OK, 2: api.OK, 500: api.OK, 998: api.OK, 999: api.OK, 1000: api.ErrRange, most: api.ErrRange,
		1 << 32: api.ErrRange, 1<<32 + 1: api.ErrRange,
	} {
		checked(t, api.Schema{Version: version}, want)
		checked(t, changed(func(s *api.Schema) { s.Version = version }), want)
	}
}

func TestWithoutDefinitions(t *testing.T) {
	checked(t, api.Schema{Version: 1}, api.OK)
	checked(t, api.Schema{Version: 1, Enums: []api.Enum{}, Structs: []api.Struct{}}, api.OK)
	checked(t, enums(mode("A")), api.OK)
	checked(t, structs(structure("A")), api.OK)
	checked(t, api.Schema{}, api.ErrRange)
}

// forPlaces calls check with schemas that have a name at a place, with the
// places of type names or with the others.
func forPlaces(ofTypes bool, name string, check func(s api.Schema)) {
	if ofTypes {
		check(enums(mode("X"), mode(name)))
		check(structs(structure("X"), structure(name)))
		return
	}
	check(enums(api.Enum{Name: "X", Names: []string{name}, Numbers: []int{0}}))
	check(enums(api.Enum{Name: "X", Names: []string{"x", name}, Numbers: []int{0, 1}}))
	check(structs(structure("X", field(1, name, boolean()))))
	check(structs(structure("X", field(1, "x", boolean()), field(2, name, boolean()))))
}

func TestNames(t *testing.T) {
	long := strings.Repeat("y", 15)
	for name, want := range map[string]api.Errno{
		"a": api.OK, "z": api.OK, "A": api.OK, "Z": api.OK, "a1": api.OK, "A1": api.OK, "a_": api.OK, "A_b_9": api.OK, "Pose": api.OK, "pose": api.OK, "of": api.OK,
		"a" + long: api.OK, "A" + long: api.OK, "A" + long[1:]: api.OK,
		"a" + long + "y": api.ErrName, "A" + long + "y": api.ErrName, "A" + long + "_": api.ErrName, strings.Repeat("A", 5000): api.ErrName,
		"": api.ErrName, "1": api.ErrName, "1A": api.ErrName, "_": api.ErrName, "_A": api.ErrName, "_a": api.ErrName, "-": api.ErrName, "A-": api.ErrName, "A-1": api.ErrName,
		" ": api.ErrName, " A": api.ErrName, "A ": api.ErrName, "A b": api.ErrName, "A\n": api.ErrName, "A\x00": api.ErrName, "A.b": api.ErrName, "\"A\"": api.ErrName, "A#": api.ErrName, "[": api.ErrName, "@": api.ErrName, "{": api.ErrName, "`": api.ErrName,
		"\u00c4": api.ErrName, "A\u00e4": api.ErrName, "\xff": api.ErrName, "A\xff": api.ErrName,
	} {
		forPlaces(false, name, func(s api.Schema) { checked(t, s, want) })
		if name != "" && name[0] >= 'a' {
			want = api.ErrName
		}
		forPlaces(true, name, func(s api.Schema) { checked(t, s, want) })
	}
}

// Each byte, alone, in front and behind.
func TestBytesOfNames(t *testing.T) {
	expect := func(ofTypes bool, name string, proper bool) {
		want := api.ErrName
		if proper {
			want = api.OK
		}
		forPlaces(ofTypes, name, func(s api.Schema) { checked(t, s, want) })
	}
	for i := range 256 {
		c := string([]byte{byte(i)})
		capital, small := c >= "A" && c <= "Z", c >= "a" && c <= "z"
		inside := capital || small || c == "_" || c >= "0" && c <= "9"
		if c != "X" && c != "x" {
			expect(true, c, capital)
			expect(false, c, capital || small)
		}
		expect(true, c+"q", capital)
		expect(false, c+"q", capital || small)
		expect(true, "Q"+c, inside)
		expect(false, "q"+c, inside)
	}
}

func TestNumberOfDefinitions(t *testing.T) {
	for _, x := range []struct {
		enums, structs int
		want           api.Errno
	}{
		{16, 0, api.OK}, {0, 16, api.OK}, {8, 8, api.OK}, {1, 15, api.OK}, {15, 1, api.OK}, {7, 8, api.OK},
		{17, 0, api.ErrLong}, {0, 17, api.ErrLong}, {8, 9, api.ErrLong}, {9, 8, api.ErrLong}, {16, 1, api.ErrLong}, {1, 16, api.ErrLong}, {16, 16, api.ErrLong}, {0, 100, api.ErrLong}, {1000, 0, api.ErrLong},
	} {
		s := api.Schema{Version: 1}
		for i := range x.enums {
			s.Enums = append(s.Enums, mode(fmt.Sprintf("E%d", i)))
		}
		for i := range x.structs {
			s.Structs = append(s.Structs, structure(fmt.Sprintf("S%d", i)))
		}
		checked(t, s, x.want)
	}
}

func TestNumberOfNamesAndFields(t *testing.T) {
	for n, want := range map[int]api.Errno{1: api.OK, 15: api.OK, 16: api.OK, 17: api.ErrLong, 18: api.ErrLong, 100: api.ErrLong} {
		x, y := api.Enum{Name: "E"}, api.Struct{Name: "S"}
		for i := range n {
			name := fmt.Sprintf("a%d", i)
			x.Names, x.Numbers = append(x.Names, name), append(x.Numbers, i)
			y.Fields = append(y.Fields, field(i+1, name, boolean()))
		}
		checked(t, enums(x), want)
		checked(t, structs(y), want)
		checked(t, enums(mode("A"), x), want)
		checked(t, structs(structure("A"), y), want)
	}
	// Only names count; that there are too many numbers is an error of its own.
	checked(t, enums(api.Enum{Name: "E", Names: []string{"a"}, Numbers: make([]int, 17)}), api.ErrFormat)
}

func TestExistingNames(t *testing.T) {
	off := []string{"a", "b", "c"}
	for _, x := range []struct {
		s    api.Schema
		want api.Errno
	}{
		{enums(mode("A"), mode("B"), mode("A")), api.ErrExists},
		{enums(mode("A"), mode("A")), api.ErrExists},
		{enums(mode("A"), mode("AA"), mode("Aa")), api.OK},
		{structs(structure("A"), structure("B"), structure("A")), api.ErrExists},
		{structs(structure("B"), structure("A"), structure("A")), api.ErrExists},
		{structs(structure("A"), structure("AA"), structure("Aa")), api.OK},
		{api.Schema{Version: 1, Enums: []api.Enum{mode("A"), mode("B")}, Structs: []api.Struct{structure("B")}}, api.ErrExists},
		{api.Schema{Version: 1, Enums: []api.Enum{mode("A"), mode("B")}, Structs: []api.Struct{structure("C"), structure("A")}}, api.ErrExists},
		{api.Schema{Version: 1, Enums: []api.Enum{mode("A"), mode("B")}, Structs: []api.Struct{structure("C"), structure("D")}}, api.OK},
		{enums(api.Enum{Name: "A", Names: []string{"a", "a"}, Numbers: []int{0, 1}}), api.ErrExists},
		{enums(api.Enum{Name: "A", Names: []string{"a", "b", "a"}, Numbers: []int{0, 1, 2}}), api.ErrExists},
		{enums(api.Enum{Name: "A", Names: []string{"a", "A", "aa"}, Numbers: []int{0, 1, 2}}), api.OK},
		{structs(structure("A", field(1, "a", boolean()), field(2, "a", boolean()))), api.ErrExists},
		{structs(structure("A", field(1, "a", boolean()), field(2, "b", boolean()), field(3, "a", integer(8)))), api.ErrExists},
		{structs(structure("A", field(1, "a", boolean()), field(2, "A", boolean()), field(3, "aa", boolean()))), api.OK},
		// Each enumeration and each struct has names of its own.
		{enums(api.Enum{Name: "A", Names: off, Numbers: []int{0, 1, 2}}, api.Enum{Name: "B", Names: off, Numbers: []int{0, 1, 2}}), api.OK},
		{structs(record("A", boolean(), boolean()), record("B", boolean(), boolean())), api.OK},
		{api.Schema{Version: 1, Enums: []api.Enum{{Name: "A", Names: []string{"A"}, Numbers: []int{0}}}, Structs: []api.Struct{structure("B", field(1, "A", boolean()), field(2, "B", boolean()))}}, api.OK},
	} {
		checked(t, x.s, x.want)
	}
}

func TestNumbersOfNames(t *testing.T) {
	for _, x := range []struct {
		names   int
		numbers []int
		want    api.Errno
	}{
		{0, nil, api.ErrFormat},
		{0, []int{}, api.ErrFormat},
		{0, []int{0}, api.ErrFormat},
		{1, nil, api.ErrFormat},
		{2, []int{0}, api.ErrFormat},
		{2, []int{0, 1, 2}, api.ErrFormat},
		{1, []int{0, 1}, api.ErrFormat},
		{16, make([]int, 15), api.ErrFormat},
		{1, []int{0}, api.OK},
		{2, []int{0, 1}, api.OK},
		{2, []int{0, 127}, api.OK},
		{3, []int{0, 126, 127}, api.OK},
		{4, []int{0, 2, 5, 100}, api.OK},
		{1, []int{1}, api.ErrFormat},
		{1, []int{127}, api.ErrFormat},
		{2, []int{1, 2}, api.ErrFormat},
		{2, []int{1, 0}, api.ErrFormat},
		{2, []int{0, 0}, api.ErrFormat},
		{3, []int{0, 5, 5}, api.ErrFormat},
		{3, []int{0, 2, 1}, api.ErrFormat},
		{3, []int{0, 2, 0}, api.ErrFormat},
		{4, []int{0, 9, 3, 10}, api.ErrFormat},
		{1, []int{-1}, api.ErrRange},
		{1, []int{128}, api.ErrRange},
		{2, []int{-1, 0}, api.ErrRange},
		{2, []int{0, -1}, api.ErrRange},
		{2, []int{0, 128}, api.ErrRange},
		{3, []int{0, 127, 128}, api.ErrRange},
		{3, []int{0, 128, 129}, api.ErrRange},
		{2, []int{0, least}, api.ErrRange},
		{2, []int{0, most}, api.ErrRange},
		{2, []int{0, 1<<32 + 1}, api.ErrRange},
		{3, []int{0, 0, -1}, api.ErrFormat},
		{3, []int{0, -1, -1}, api.ErrRange},
	} {
		e := api.Enum{Name: "A", Numbers: x.numbers}
		for i := range x.names {
			e.Names = append(e.Names, letter(i))
		}
		checked(t, enums(e), x.want)
		checked(t, enums(mode("B"), e, mode("C")), x.want)
	}
}

func TestNumbersOfFields(t *testing.T) {
	for _, x := range []struct {
		numbers []int
		want    api.Errno
	}{
		{nil, api.OK},
		{[]int{1}, api.OK},
		{[]int{127}, api.OK},
		{[]int{1, 2, 3}, api.OK},
		{[]int{1, 127}, api.OK},
		{[]int{126, 127}, api.OK},
		{[]int{3, 50, 51}, api.OK},
		{[]int{0}, api.ErrRange},
		{[]int{128}, api.ErrRange},
		{[]int{-1}, api.ErrRange},
		{[]int{least}, api.ErrRange},
		{[]int{most}, api.ErrRange},
		{[]int{1<<32 + 1}, api.ErrRange},
		{[]int{0, 1}, api.ErrRange},
		{[]int{1, 0}, api.ErrRange},
		{[]int{1, 128}, api.ErrRange},
		{[]int{127, 128}, api.ErrRange},
		{[]int{5, -1}, api.ErrRange},
		{[]int{1, 1}, api.ErrFormat},
		{[]int{2, 1}, api.ErrFormat},
		{[]int{127, 127}, api.ErrFormat},
		{[]int{127, 1}, api.ErrFormat},
		{[]int{1, 3, 2}, api.ErrFormat},
		{[]int{1, 3, 3}, api.ErrFormat},
		{[]int{1, 3, 1}, api.ErrFormat},
		{[]int{1, 1, 0}, api.ErrFormat},
		{[]int{1, 0, 0}, api.ErrRange},
	} {
		y := api.Struct{Name: "A"}
		for i, number := range x.numbers {
			y.Fields = append(y.Fields, field(number, letter(i), boolean()))
		}
		checked(t, structs(y), x.want)
		checked(t, structs(record("B", boolean()), y, structure("C")), x.want)
	}
}

// typed checks whether a type is valid in a schema with the enumeration Mode,
// the struct Tag, and the struct Last behind the one with this type.
func typed(t *testing.T, x api.Type, valid bool) {
	t.Helper()
	want := api.ErrType
	if valid {
		want = api.OK
	}
	for _, y := range []api.Struct{record("A", x), record("A", boolean(), x), record("A", x, boolean()), record("A", list(5, x))} {
		checked(t, api.Schema{Version: 1, Enums: []api.Enum{mode("Mode")}, Structs: []api.Struct{structure("Tag"), y, structure("Last")}}, want)
	}
}

func TestSizes(t *testing.T) {
	sizes := []int{least, most, 1 << 32, 1<<32 + 8, 1 << 62}
	for size := -70; size <= 2100; size++ {
		sizes = append(sizes, size)
	}
	for _, size := range sizes {
		typed(t, api.Type{Kind: api.KBool, Size: size}, size == 0)
		typed(t, integer(size), slices.Contains([]int{8, 16, 32, 64}, size))
		typed(t, unsigned(size), slices.Contains([]int{8, 16, 32}, size))
		typed(t, text(size), size >= 1 && size <= 2000)
		typed(t, list(size, boolean()), size >= 1 && size <= 32)
		typed(t, api.Type{Kind: api.KStruct, Size: size, Name: "Tag"}, size == 0)
		typed(t, api.Type{Kind: api.KEnum, Size: size, Name: "Mode"}, size == 0)
	}
}

func TestKinds(t *testing.T) {
	for _, kind := range []int{least, -8, -1, 0, 8, 9, 10, 256, 257, 1 << 32, 1<<32 + 1, most} {
		for _, size := range []int{0, 1, 8, 16, 32} {
			for _, name := range []string{"", "Mode", "Tag"} {
				typed(t, api.Type{Kind: kind, Size: size, Name: name}, false)
				typed(t, api.Type{Kind: kind, Size: size, Name: name, Elem: []api.Type{boolean()}}, false)
			}
		}
	}
}

// What the kind of a type does not have is zero.
func TestFieldsThatAKindDoesNotHave(t *testing.T) {
	for _, x := range []api.Type{boolean(), integer(8), integer(64), unsigned(8), unsigned(32), text(1), text(2000)} {
		typed(t, x, true)
		for _, name := range []string{"Mode", "Tag", "A", "a", " "} {
			x.Name = name
			typed(t, x, false)
		}
	}
	for _, x := range []api.Type{boolean(), integer(8), integer(64), unsigned(8), unsigned(32), text(1), text(2000), structType("Tag"), enumType("Mode")} {
		x.Elem = []api.Type{}
		typed(t, x, true)
		for _, elem := range [][]api.Type{{boolean()}, {{}}, {x}, {boolean(), boolean()}} {
			x.Elem = elem
			typed(t, x, false)
		}
	}
	x := list(3, boolean())
	for _, name := range []string{"Mode", "Tag", "A", "a", " "} {
		x.Name = name
		typed(t, x, false)
	}
}

func TestLists(t *testing.T) {
	typed(t, list(3), false)
	typed(t, list(3, boolean(), boolean()), false)
	typed(t, list(3, boolean(), structType("Tag"), enumType("Mode")), false)
	typed(t, list(3, structType("Tag")), true)
	typed(t, list(3, enumType("Mode")), true)
	typed(t, list(1, list(32, boolean())), true)
	typed(t, list(1, list(2, list(3, list(4, text(5))))), true)
	typed(t, list(1, list(0, boolean())), false)
	typed(t, list(1, list(33, boolean())), false)
	typed(t, list(0, list(1, boolean())), false)
	typed(t, list(1, list(2, list(3))), false)
	typed(t, list(1, list(2, boolean(), boolean())), false)
	typed(t, list(1, integer(24)), false)
	typed(t, list(1, list(2, list(3, text(0)))), false)
	typed(t, list(1, structType("None")), false)
	typed(t, list(1, api.Type{}), false)
}

func TestReferences(t *testing.T) {
	for _, x := range []struct {
		reference api.Type
		valid     bool
	}{
		{structType("Tag"), true},
		{structType("Last"), true}, // which comes later
		{enumType("Mode"), true},
		{structType("Mode"), false},
		{enumType("Tag"), false},
		{enumType("Last"), false},
		{enumType("A"), false},
		{structType("None"), false},
		{enumType("None"), false},
		{structType(""), false},
		{enumType(""), false},
		{structType("tag"), false},
		{structType("Ta"), false},
		{structType("Tags"), false},
		{structType("Tag "), false},
		{enumType("mode"), false},
		{enumType("Mod"), false},
		{enumType("Modes"), false},
		{enumType("off"), false},
	} {
		typed(t, x.reference, x.valid)
	}
	// A definition of which something else is wrong is one that exists.
	checked(t, structs(record("A", structType("b")), structure("b")), api.ErrName)
	checked(t, structs(record("A", structType("")), structure("")), api.ErrName)
	checked(t, structs(record("A", structType("B")), structure("B"), structure("B")), api.ErrExists)
	both := api.Schema{Version: 1, Enums: []api.Enum{mode("B")}, Structs: []api.Struct{record("A", structType("B"), enumType("B")), structure("B")}}
	checked(t, both, api.ErrExists)
}

// chain returns structs each of which uses the next one, in ascending or in
// descending order.
func chain(length int, ascending bool, last ...api.Type) api.Schema {
	all := []api.Struct{record(fmt.Sprintf("S%d", length), last...)}
	for i := length - 1; i > 0; i-- {
		all = append(all, record(fmt.Sprintf("S%d", i), structType(fmt.Sprintf("S%d", i+1))))
	}
	if ascending {
		slices.Reverse(all)
	}
	return structs(all...)
}

func TestCycles(t *testing.T) {
	for _, x := range []api.Schema{
		structs(record("A", structType("A"))),
		structs(record("A", list(1, structType("A")))),
		structs(record("A", lists(3, structType("A")))),
		structs(record("A", boolean(), structType("A"), boolean())),
		structs(structure("B"), structure("C"), record("A", structType("B"), structType("A"))),
		structs(record("A", structType("B")), record("B", structType("A"))),
		structs(record("A", list(1, structType("B"))), record("B", lists(2, structType("A")))),
		structs(record("A", structType("B")), record("B", structType("C")), record("C", structType("A"))),
		structs(record("A", structType("B")), record("B", structType("C")), record("C", boolean(), structType("B"))),
		structs(record("A", structType("B"), structType("C")), structure("B"), record("C", structType("C"))),
		chain(16, true, structType("S1")),
		chain(16, false, list(9, structType("S1"))),
		chain(16, true, structType("S16")),
		chain(5, false, structType("S3")),
		structs(structure("A", api.Field{Number: 1, Name: "a", Type: structType("A"), Optional: true})),
	} {
		checked(t, x, api.ErrCycle)
	}
}

// A struct that is used more than once is no cycle.
func TestStructsUsedMoreThanOnce(t *testing.T) {
	for _, x := range []api.Schema{
		structs(record("A", structType("B"), structType("B"), list(2, structType("B"))), structure("B")),
		structs(record("A", structType("B"), structType("C")), record("B", structType("D")), record("C", structType("D")), structure("D")),
		structs(structure("D"), record("C", structType("D")), record("B", structType("D"), structType("C")), record("A", structType("D"), structType("C"), structType("B"))),
		structs(record("A", structType("C")), record("B", structType("C")), structure("C")),
	} {
		checked(t, x, api.OK)
	}
}

func TestDepths(t *testing.T) {
	for _, x := range []struct {
		s    api.Schema
		want api.Errno
	}{
		{chain(6, true), api.OK},
		{chain(6, false), api.OK},
		{chain(7, true), api.ErrDepth},
		{chain(7, false), api.ErrDepth},
		{chain(16, true), api.ErrDepth},
		{chain(6, true, boolean(), text(3)), api.OK},
		{chain(6, false, list(1, boolean())), api.ErrDepth},
		{chain(5, true, list(1, boolean())), api.OK},
		{chain(5, false, lists(2, boolean())), api.ErrDepth},
		{structs(record("A", lists(5, boolean()))), api.OK},
		{structs(record("A", lists(6, boolean()))), api.ErrDepth},
		{structs(record("A", lists(5, integer(8)), lists(4, text(1)))), api.OK},
		{structs(record("A", boolean(), lists(6, text(1)), boolean())), api.ErrDepth},
		{structs(structure("B"), record("A", lists(4, structType("B")))), api.OK},
		{structs(structure("B"), record("A", lists(5, structType("B")))), api.ErrDepth},
		{structs(record("B", lists(2, boolean())), record("A", lists(2, structType("B")))), api.OK},
		{structs(record("A", lists(2, structType("B"))), record("B", lists(3, boolean()))), api.ErrDepth},
		{structs(record("A", lists(3, structType("B"))), record("B", lists(2, boolean()))), api.ErrDepth},
		{structs(structure("C"), record("B", lists(6, boolean())), structure("A")), api.ErrDepth},
		// The levels of two fields do not add up, nor do those of two structs.
		{structs(record("A", structType("B"), lists(5, boolean()), structType("B")), record("B", lists(4, boolean()))), api.OK},
		{structs(record("A", lists(5, boolean())), record("B", lists(5, boolean()))), api.OK},
		{api.Schema{Version: 1, Enums: []api.Enum{mode("M")}, Structs: []api.Struct{record("A", lists(5, enumType("M")))}}, api.OK},
		{api.Schema{Version: 1, Enums: []api.Enum{mode("M")}, Structs: []api.Struct{record("A", lists(6, enumType("M")))}}, api.ErrDepth},
	} {
		checked(t, x.s, x.want)
	}
}

// fault is a change after which a schema has an error.
type fault struct {
	e      api.Errno
	change func(s *api.Schema)
}

// base returns a valid schema of two enumerations and two structs.
func base() api.Schema {
	return api.Schema{
		Version: 7,
		Enums: []api.Enum{
			{Name: "Mode", Names: []string{"a", "b", "c"}, Numbers: []int{0, 1, 2}},
			{Name: "Side", Names: []string{"a", "b", "c"}, Numbers: []int{0, 1, 2}},
		},
		Structs: []api.Struct{record("One", boolean(), text(5)), record("Two", integer(8), integer(16))},
	}
}

// faults returns faults in the order in which Check finds them.
func faults() []fault {
	all := []fault{
		{api.ErrRange, func(s *api.Schema) { s.Version = 0 }},
		{api.ErrLong, func(s *api.Schema) { s.Structs = append(s.Structs, make([]api.Struct, 13)...) }},
		{api.ErrLong, func(s *api.Schema) { s.Enums[1].Names = make([]string, 17) }},
		{api.ErrLong, func(s *api.Schema) { s.Structs[1].Fields = make([]api.Field, 17) }},
	}
	for i := range 2 {
		all = append(all, enumFaults(i)...)
	}
	for i := range 2 {
		all = append(all, structFaults(i)...)
	}
	return append(all,
		fault{api.ErrCycle, func(s *api.Schema) { s.Structs[1].Fields[1].Type = list(1, structType("Two")) }},
		fault{api.ErrDepth, func(s *api.Schema) { s.Structs[0].Fields[0].Type = lists(6, boolean()) }},
	)
}

// enumFaults returns the faults of an enumeration.
func enumFaults(i int) []fault {
	all := []fault{{api.ErrName, func(s *api.Schema) { s.Enums[i].Name = "mode" }}}
	if i > 0 {
		all = append(all, fault{api.ErrExists, func(s *api.Schema) { s.Enums[i].Name = s.Enums[0].Name }})
	}
	all = append(all,
		fault{api.ErrFormat, func(s *api.Schema) { s.Enums[i].Names, s.Enums[i].Numbers = nil, nil }},
		fault{api.ErrFormat, func(s *api.Schema) { s.Enums[i].Numbers = append(s.Enums[i].Numbers, 3) }},
	)
	for k := range 3 {
		all = append(all, fault{api.ErrName, func(s *api.Schema) { s.Enums[i].Names[k] = "1" }})
		if k > 0 {
			all = append(all, fault{api.ErrExists, func(s *api.Schema) { s.Enums[i].Names[k] = s.Enums[i].Names[k-1] }})
		}
		all = append(all,
			fault{api.ErrRange, func(s *api.Schema) { s.Enums[i].Numbers[k] = 128 }},
			fault{api.ErrFormat, func(s *api.Schema) { s.Enums[i].Numbers[k] = []int{1, 0, 0}[k] }},
		)
	}
	return all
}

// structFaults returns the faults of a struct.
func structFaults(i int) []fault {
	all := []fault{
		{api.ErrName, func(s *api.Schema) { s.Structs[i].Name = "_One" }},
		{api.ErrExists, func(s *api.Schema) { s.Structs[i].Name = s.Enums[1].Name }},
	}
	if i > 0 {
		all = append(all, fault{api.ErrExists, func(s *api.Schema) { s.Structs[i].Name = s.Structs[0].Name }})
	}
	for k := range 2 {
		all = append(all, fault{api.ErrRange, func(s *api.Schema) { s.Structs[i].Fields[k].Number = 128 * k }})
		if k > 0 {
			all = append(all, fault{api.ErrFormat, func(s *api.Schema) { s.Structs[i].Fields[k].Number = 1 }})
		}
		all = append(all, fault{api.ErrName, func(s *api.Schema) { s.Structs[i].Fields[k].Name = "" }})
		if k > 0 {
			all = append(all, fault{api.ErrExists, func(s *api.Schema) { s.Structs[i].Fields[k].Name = s.Structs[i].Fields[0].Name }})
		}
		all = append(all, fault{api.ErrType, func(s *api.Schema) { s.Structs[i].Fields[k].Type.Size = 3000 }})
	}
	return all
}

// Of two errors, the one that the chapter names first counts.
func TestFirstErrors(t *testing.T) {
	all := faults()
	checked(t, base(), api.OK)
	for i, first := range all {
		one := base()
		first.change(&one)
		checked(t, one, first.e)
		for k, second := range all[i+1:] {
			both := base()
			second.change(&both)
			first.change(&both)
			if e := schema.Check(both); e != first.e {
				t.Errorf("faults %d and %d: Check(%+v) = %v, want %v", i, i+1+k, both, e, first.e)
			}
		}
	}
}
