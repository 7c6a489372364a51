package evolve_test

import (
	"math/rand"
	"strings"
	"testing"

	"robotics/api"
	"robotics/codec"
	"robotics/evolve"
	"robotics/schema"
	"robotics/value"
)

// P12.4

// more and fewer are compatible versions of a schema.
const (
	more = `
		enum Mode { idle = 0, run = 1, stop = 5 }
		struct Point { 2 x: int8; 4 y: int16?; 9 mode: Mode?; }
		struct Arm { 1 at: Point; 3 path: list[3] of Point; 4 zoo: Zoo?; 7 side: bool?; }
		struct Zoo { 1 n: bool; }
		struct Top { 1 n: int32; 2 on: bool?; 3 arm: Arm; 5 arms: list[2] of list[2] of Arm?; 8 zoos: list[2] of Zoo?; 9 mode: Mode; 12 tag: text[9]?; }
	`
	fewer = `
		enum Mode { ready = 0, walk = 1, run = 4, stop = 5 }
		struct Point { 2 x: int16; }
		struct Arm { 1 at: Point; 3 path: list[4] of Point; 5 other: text[1]?; }
		struct Top { 1 n: int64; 3 arm: Arm; 5 arms: list[3] of list[2] of Arm?; 7 next: Mode?; 9 mode: Mode; }
	`
)

// conversion is a value of Top in more, and what it is in fewer.
type conversion struct{ from, to string }

func conversions() []conversion {
	return []conversion{
		{"{n = 0, arm = {at = {x = 0}, path = []}, mode = idle}", "{n = 0, arm = {at = {x = 0}, path = []}, mode = ready}"},
		{"{n = -5, on = true, arm = {at = {x = 1}, path = []}, mode = run}", "{n = -5, arm = {at = {x = 1}, path = []}, mode = walk}"},
		{`{n = 1, arm = {at = {x = 1}, path = []}, mode = stop, tag = "a"}`, "{n = 1, arm = {at = {x = 1}, path = []}, mode = stop}"},
		{"{n = 2147483647, arm = {at = {x = 1, y = 2}, path = [], zoo = {n = true}, side = false}, mode = idle}", "{n = 2147483647, arm = {at = {x = 1}, path = []}, mode = ready}"},
		{"{n = 0, arm = {at = {x = 1, y = 2, mode = run}, path = [{x = 1, mode = run}, {x = 2}, {x = 3, y = 0}]}, mode = idle}", "{n = 0, arm = {at = {x = 1}, path = [{x = 1}, {x = 2}, {x = 3}]}, mode = ready}"},
		{"{n = 0, arm = {at = {x = 0}, path = []}, arms = [], mode = idle}", "{n = 0, arm = {at = {x = 0}, path = []}, arms = [], mode = ready}"},
		{"{n = 0, arm = {at = {x = 0}, path = []}, arms = [[], [{at = {x = 0, y = 7}, path = [{x = 5, mode = stop}], zoo = {n = false}}, {at = {x = 0}, path = [], side = true}]], zoos = [{n = true}], mode = idle}",
			"{n = 0, arm = {at = {x = 0}, path = []}, arms = [[], [{at = {x = 0}, path = [{x = 5}]}, {at = {x = 0}, path = []}]], mode = ready}"},
	}
}

func TestProject(t *testing.T) {
	from, to := schemaOf(more), schemaOf(fewer)
	for _, x := range conversions() {
		v, want := structOf(from, "Top", x.from), structOf(to, "Top", x.to)
		projected(t, to, "Top", v, want)
		projected(t, to, "Top", want, want)
		projected(t, from, "Top", v, v)
		projected(t, from, "Top", want, want)
	}
}

// Entries whose numbers the struct does not have, wherever they are.
func TestProjectOfUnknownNumbers(t *testing.T) {
	s := schemaOf(sample)
	point := record(entry(2, number(1)), entry(4, number(2)))
	projected(t, s, "Point", record(), record())
	projected(t, s, "Point", point, point)
	for _, unknown := range []int{least, -1, 0, 1, 3, 5, 128, most, 1<<32 + 2} {
		extra := entry(unknown, number(9))
		for _, v := range []api.Value{
			record(extra, entry(2, number(1)), entry(4, number(2))),
			record(entry(2, number(1)), extra, entry(4, number(2))),
			record(entry(2, number(1)), entry(4, number(2)), extra),
			record(extra, extra, entry(2, number(1)), extra, extra, entry(4, number(2)), extra),
		} {
			projected(t, s, "Point", v, point)
			projected(t, s, "Arm", record(entry(1, v)), record(entry(1, point)))
			projected(t, s, "Arm", record(entry(3, items(v, point, v))), record(entry(3, items(point, point, point))))
			projected(t, s, "Top", record(entry(5, items(items(record(entry(1, v)))))), record(entry(5, items(items(record(entry(1, point)))))))
		}
		projected(t, s, "Point", record(extra), record())
		projected(t, s, "Point", record(extra, extra), record())
	}
}

// Values that are not of their types, and their order and their number, do not
// matter.
func TestProjectOfOtherValues(t *testing.T) {
	s := schemaOf(sample)
	known, unknown := entry(2, number(1)), entry(99, number(1))
	both := record(known, unknown)
	for _, v := range []api.Value{
		{}, number(5), word("a"), items(), items(both), items(items(both), both), {Kind: api.KEnum, N: 7}, {Kind: -1, L: []api.Value{both}, F: both.F}, {Kind: 99},
		{Kind: api.KInt, F: both.F}, {Kind: api.KList, F: both.F}, {Kind: 0, F: both.F},
	} {
		projected(t, s, "Point", v, v)
		projected(t, s, "Arm", record(entry(1, v)), record(entry(1, v)))
		projected(t, s, "Top", record(entry(3, v)), record(entry(3, v)))
		projected(t, s, "Point", record(entry(2, v)), record(entry(2, v)))
		if v.Kind != api.KList {
			projected(t, s, "Arm", record(entry(3, v)), record(entry(3, v)))
			projected(t, s, "Arm", record(entry(3, items(v, both, v))), record(entry(3, items(v, record(known), v))))
		}
	}
	// A struct where there is another kind.
	projected(t, s, "Top", record(entry(1, both), entry(5, both), entry(9, both), entry(12, both)), record(entry(1, both), entry(5, both), entry(9, both), entry(12, both)))
	projected(t, s, "Arm", record(entry(3, both)), record(entry(3, both)))
	projected(t, s, "Arm", record(entry(3, items(items(both)))), record(entry(3, items(items(both)))))
	projected(t, s, "Top", record(entry(5, items(both, items(record(entry(1, both)), both)))), record(entry(5, items(both, items(record(entry(1, record(known))), record())))))
	// Numbers that fall, or are there again.
	projected(t, s, "Point", record(entry(4, number(1)), unknown, entry(2, number(2)), entry(4, both)), record(entry(4, number(1)), entry(2, number(2)), entry(4, both)))
	// What the kind of a value does not use stays.
	odd, kept := both, record(known)
	odd.N, odd.S, odd.L = 5, "a", []api.Value{both}
	kept.N, kept.S, kept.L = 5, "a", []api.Value{both}
	projected(t, s, "Point", odd, kept)
	list, keptList := items(both), items(record(known))
	list.N, list.S, list.F = 5, "a", both.F
	keptList.N, keptList.S, keptList.F = 5, "a", both.F
	projected(t, s, "Arm", record(entry(3, list)), record(entry(3, keptList)))
	// Too large for their types.
	path := items(make([]api.Value, 100)...)
	projected(t, s, "Arm", record(entry(3, path)), record(entry(3, path)))
	projected(t, s, "Top", record(entry(1, number(most)), entry(12, word(strings.Repeat("a", 5000)))), record(entry(1, number(most)), entry(12, word(strings.Repeat("a", 5000)))))
}

func TestProjectOfOtherNames(t *testing.T) {
	s := schemaOf(sample)
	v := record(entry(0, number(1)), entry(2, items(record(entry(99, number(1))))), entry(98, word("a")))
	for _, name := range append(strangeNames(), "Mode", "Side") {
		projected(t, s, name, v, v)
		projected(t, api.Schema{Version: 1}, name, v, v)
	}
	for _, x := range invalidSchemas() {
		for _, name := range append(strangeNames(), "Top", "Point", "Mode") {
			projected(t, x, name, v, v)
		}
	}
}

// Random values by random schemas of which they are, by other versions, and
// values of which parts were replaced.
func TestProjectOfRandomValues(t *testing.T) {
	r := rand.New(rand.NewSource(6))
	changed, count := 0, 0
	forPairs(func(a, b api.Schema) {
		for _, x := range a.Structs {
			v := randomValue(r, a, structType(x.Name))
			projected(t, a, x.Name, v, v)
			for _, w := range []api.Value{v, spoiled(r, v)} {
				want := project(b, x.Name, w)
				projected(t, b, x.Name, w, want)
				if !value.Equal(w, want) {
					changed++
				}
				count++
			}
		}
	})
	if changed < 2000 || count-changed < 2000 {
		t.Errorf("%d of %d values are changed", changed, count)
	}
}

// P12.5

func TestConvert(t *testing.T) {
	from, to := schemaOf(more), schemaOf(fewer)
	for _, x := range conversions() {
		v, want := structOf(from, "Top", x.from), structOf(to, "Top", x.to)
		converted(t, from, to, "Top", v, want)
		converted(t, from, from, "Top", v, v)
		converted(t, to, to, "Top", want, want)
		notConverted(t, to, from, "Top", want, api.ErrIncompatible)
	}
	converted(t, from, to, "Point", structOf(from, "Point", "{x = 5, y = 6}"), structOf(to, "Point", "{x = 5}"))
	// Fields that only the other schema has are not optional, or not there.
	v := structOf(to, "Arm", `{at = {x = 0}, path = [], other = "a"}`)
	narrow := schemaOf("struct Point { 2 x: int16; } struct Arm { 1 at: Point; 3 path: list[4] of Point; 6 third: bool?; }")
	converted(t, to, narrow, "Arm", v, structOf(narrow, "Arm", "{at = {x = 0}, path = []}"))
}

// All combinations of errors: the first one is returned.
func TestErrorsOfConvert(t *testing.T) {
	valid := schemaOf(sample)
	none, other := api.Schema{Version: 1}, schemaOf("struct Top { 99 x: bool; } enum Arm { a = 0 }")
	good := value.Zero(valid, structType("Top"))
	combined := map[api.Errno]int{}
	schemas := invalidSchemas()
	schemas["valid"], schemas["none"], schemas["other"] = valid, none, other
	values := []api.Value{good, {}, number(1), record(), value.With(good, 99, number(1)), value.With(good, 1, number(1<<31)), value.With(good, 12, word("0123456789")), value.With(good, 9, api.Value{Kind: api.KEnum, N: 2}), value.With(good, 5, nested(6, number(1))), value.Without(good, 1)}
	for _, from := range schemas {
		for _, to := range schemas {
			for _, name := range []string{"Top", "Arm", "Mode", "None", ""} {
				for _, v := range values {
					want := api.ErrIncompatible
					_, known := schema.Struct(from, name)
					switch e := value.Check(from, structType(name), v); {
					case schema.Check(from) != api.OK:
						want = schema.Check(from)
					case schema.Check(to) != api.OK:
						want = schema.Check(to)
					case !known:
						want = api.ErrNone
					case e != api.OK:
						want = e
					case len(issues(from, to, name)) == 0 && has(to, name):
						converted(t, from, to, name, v, v)
						continue
					}
					notConverted(t, from, to, name, v, want)
					combined[want]++
				}
			}
		}
	}
	for _, e := range []api.Errno{api.ErrRange, api.ErrLong, api.ErrName, api.ErrExists, api.ErrFormat, api.ErrType, api.ErrCycle, api.ErrDepth, api.ErrNone, api.ErrIncompatible} {
		if combined[e] == 0 {
			t.Errorf("no calls with %v", e)
		}
	}
}

// Each error with all of those behind it.
func TestOrderOfErrorsOfConvert(t *testing.T) {
	valid, other := schemaOf(sample), schemaOf("struct Top { 99 x: bool; }")
	good := value.Zero(valid, structType("Top"))
	bad := value.With(good, 1, number(1<<31))
	noVersion, noName := api.Schema{}, schemaOf(sample)
	noName.Structs[1].Name = ""
	for _, v := range []api.Value{bad, {}} {
		for _, name := range []string{"Top", "None", "Mode"} {
			notConverted(t, noVersion, noName, name, v, api.ErrRange)
			notConverted(t, noName, noVersion, name, v, api.ErrName)
			notConverted(t, noName, valid, name, v, api.ErrName)
			notConverted(t, noName, other, name, v, api.ErrName)
			notConverted(t, valid, noName, name, v, api.ErrName)
			notConverted(t, other, noName, name, v, api.ErrName)
		}
		notConverted(t, valid, other, "None", v, api.ErrNone)
		notConverted(t, valid, other, "Mode", v, api.ErrNone)
		notConverted(t, api.Schema{Version: 1}, valid, "Top", v, api.ErrNone)
	}
	notConverted(t, valid, other, "Top", bad, api.ErrRange)
	notConverted(t, valid, api.Schema{Version: 1}, "Top", bad, api.ErrRange)
	notConverted(t, valid, valid, "Top", bad, api.ErrRange)
	notConverted(t, valid, other, "Top", api.Value{}, api.ErrType)
	notConverted(t, valid, other, "Top", nested(7, number(1)), api.ErrDepth)
	notConverted(t, valid, other, "Top", good, api.ErrIncompatible)
	notConverted(t, valid, api.Schema{Version: 1}, "Top", good, api.ErrIncompatible)
	notConverted(t, valid, schemaOf("enum Top { a = 0 }"), "Top", good, api.ErrIncompatible)
}

// Each kind of issue keeps a value from being converted, also if it has
// nothing of what is not compatible.
func TestConvertOfIncompatibleVersions(t *testing.T) {
	from := schemaOf("enum M { a = 0, b = 1 } struct A { 1 x: int8?; } struct Top { 1 m: M?; 2 a: A?; 3 n: int16?; }")
	for _, to := range []string{
		"enum M { a = 0 } struct A { 1 x: int8?; } struct Top { 1 m: M?; 2 a: A?; 3 n: int16?; }",
		"enum M { a = 0, b = 1 } struct A { 1 x: bool?; } struct Top { 1 m: M?; 2 a: A?; 3 n: int16?; }",
		"enum M { a = 0, b = 1 } struct A { 1 x: int8; } struct Top { 1 m: M?; 2 a: A?; 3 n: int16?; }",
		"enum M { a = 0, b = 1 } struct A { 1 x: int8?; 2 y: bool; } struct Top { 1 m: M?; 2 a: A?; 3 n: int16?; }",
		"enum M { a = 0, b = 1 } struct A { 1 x: int8?; } struct Top { 1 m: M?; 2 a: A?; 3 n: int8?; }",
		"enum M { a = 0, b = 1 } enum A { x = 0 } struct Top { 1 m: M?; 3 n: int16?; 4 a: A?; }",
	} {
		notConverted(t, from, schemaOf(to), "Top", record(), api.ErrIncompatible)
		notConverted(t, from, schemaOf(to), "Top", record(entry(3, number(1))), api.ErrIncompatible)
	}
	converted(t, from, schemaOf("struct Top { 5 x: bool?; }"), "Top", record(entry(1, api.Value{Kind: api.KEnum, N: 1}), entry(3, number(1))), record())
}

// P12.7

// A value that is converted is what the other version reads.
func TestConvertAgreesWithDecode(t *testing.T) {
	from, to := schemaOf(more), schemaOf(fewer)
	for _, x := range conversions() {
		b, e := codec.Encode(from, "Top", structOf(from, "Top", x.from))
		v, f := codec.Decode(to, "Top", b)
		if e != api.OK || f != api.OK || !value.Equal(v, structOf(to, "Top", x.to)) {
			t.Errorf("%s is encoded as %x, %v, and decoded as %+v, %v", x.from, b, e, v, f)
		}
	}
	r := rand.New(rand.NewSource(7))
	compared, changed := 0, 0
	forPairs(func(a, b api.Schema) {
		for _, x := range a.Structs {
			v := randomValue(r, a, structType(x.Name))
			want, e := evolve.Convert(a, b, x.Name, v)
			if len(issues(a, b, x.Name)) > 0 {
				notConverted(t, a, b, x.Name, v, api.ErrIncompatible)
				continue
			}
			encoded, f := codec.Encode(a, x.Name, v)
			if f == api.ErrLong {
				continue
			}
			got, g := codec.Decode(b, x.Name, encoded)
			if e != api.OK || f != api.OK || g != api.OK || !value.Equal(got, want) {
				t.Errorf("%+v is converted to %+v, %v, encoded as %x, %v, and decoded as %+v, %v; from\n%s to\n%s", v, want, e, encoded, f, got, g, text(a), text(b))
			}
			compared++
			if !value.Equal(v, want) {
				changed++
			}
		}
	})
	if compared < 5000 || changed < 500 {
		t.Errorf("only %d values are compared, %d of which are changed", compared, changed)
	}
}
