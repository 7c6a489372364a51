package value_test

import (
	"fmt"
	"math/rand"
	"slices"
	"strings"
	"testing"

	"robotics/api"
	"robotics/schema"
	"robotics/value"
)

// P9.9

func TestZeroIsAValue(t *testing.T) {
	types, _ := ofEachKind()
	types = append(types, structType("Arm"), structType("Pose"), structType("Free"), structType("Empty"), enumType("Only"))
	for _, x := range types {
		for n := range 10 {
			exampleChecked(t, lists(n, x), value.Zero(example(), lists(n, x)), api.OK)
		}
	}
	r := rand.New(rand.NewSource(4))
	for range 3000 {
		s := randomSchema(r)
		x := randomType(r, s)
		checked(t, s, x, value.Zero(s, x), api.OK)
	}
}

// Also where the zero value has MaxDepth levels.
func TestZeroOfDeepStructsIsAValue(t *testing.T) {
	s := chain()
	for i := range s.Structs {
		s.Structs[i].Fields[0].Optional = false
	}
	for n := 1; n <= 6; n++ {
		x := structType(fmt.Sprintf("S%d", n))
		v := value.Zero(s, x)
		checked(t, s, x, v, api.OK)
		if got := levels(v); got != 7-n {
			t.Errorf("the zero value of S%d has %d levels", n, got)
		}
	}
}

// P9.10

func TestTotalOrder(t *testing.T) {
	all := someValues()
	for i, a := range all {
		for k, b := range all {
			got := value.Compare(a, b)
			if want := slices.Compare(spelled(a), spelled(b)); got != want || got != -value.Compare(b, a) {
				t.Errorf("Compare(%s, %s) = %d, want %d", written(a), written(b), got, want)
			}
			if value.Equal(a, b) != (i == k) || (got == 0) != (i == k) {
				t.Errorf("%s, %s: Compare is %d, Equal %v", written(a), written(b), got, value.Equal(a, b))
			}
		}
	}
	slices.SortFunc(all, value.Compare)
	r := rand.New(rand.NewSource(5))
	for range 20000 {
		i, k := r.Intn(len(all)), r.Intn(len(all))
		if got := value.Compare(all[i], all[k]); (got < 0) != (i < k) || (got > 0) != (i > k) {
			t.Errorf("Compare(%s, %s) = %d", written(all[i]), written(all[k]), got)
		}
	}
}

func TestOrderIsTransitive(t *testing.T) {
	all := someValues()
	r := rand.New(rand.NewSource(6))
	for range 100000 {
		a, b, c := all[r.Intn(len(all))], all[r.Intn(len(all))], all[r.Intn(len(all))]
		if value.Compare(a, b) <= 0 && value.Compare(b, c) <= 0 && value.Compare(a, c) > 0 {
			t.Errorf("%s, %s, %s", written(a), written(b), written(c))
		}
	}
}

// P9.11

func TestFieldOfWith(t *testing.T) {
	for _, v := range append(someValues(), disordered(), arm()) {
		if v.Kind != api.KStruct {
			continue
		}
		for _, x := range []api.Value{{}, number(1), v, arm()} {
			for n := -8; n < 12; n++ {
				w := value.With(v, n, x)
				searched(value.Field(w, n)).found(t, x)
				for k := -8; k < 12; k++ {
					if k == n {
						continue
					}
					got, ok := value.Field(v, k)
					if again, still := value.Field(w, k); still != ok || written(again) != written(got) {
						t.Errorf("the field %d of %s after With of %d: %s, %v", k, written(v), n, written(again), still)
					}
				}
				searched(value.Field(value.Without(w, n), n)).missed(t)
			}
		}
	}
}

// With keeps the entries of a struct ascending, and a value that is one of its
// type, if the field belongs to it.
func TestWithKeepsValuesOfTypes(t *testing.T) {
	r := rand.New(rand.NewSource(7))
	for range 2000 {
		s := randomSchema(r)
		x := structType(s.Structs[r.Intn(len(s.Structs))].Name)
		v := randomValue(r, s, x)
		y, _ := schema.Struct(s, x.Name)
		for _, f := range y.Fields {
			w := value.With(v, f.Number, randomValue(r, s, f.Type))
			checked(t, s, x, w, check(s, x, w))
			if !slices.IsSortedFunc(w.F, func(a, b api.Entry) int { return a.Number - b.Number }) {
				t.Errorf("With of %d for %s: %s", f.Number, written(v), written(w))
			}
			if e := value.Check(s, x, w); e != api.OK && e != api.ErrDepth {
				t.Errorf("With of %d for %s: %v", f.Number, written(v), e)
			}
		}
	}
}

// R1

// forStrangeSchemas calls use with schemas that are not valid.
func forStrangeSchemas(use func(s api.Schema)) {
	for _, change := range []func(s *api.Schema){
		func(s *api.Schema) { *s = api.Schema{} },
		func(s *api.Schema) { s.Version = -1 },
		func(s *api.Schema) { s.Structs[0].Fields[0].Type = structType("Arm") },
		func(s *api.Schema) { s.Structs[1].Fields[0].Type = structType("Arm") },
		func(s *api.Schema) { s.Structs[1].Fields[0].Type = list(1, structType("Tag")) },
		func(s *api.Schema) { s.Structs[1].Fields[0].Type = list(2) },
		func(s *api.Schema) { s.Structs[1].Fields[0].Type = list(2, boolean(), boolean()) },
		func(s *api.Schema) { s.Structs[1].Fields[0].Type = list(-1, list(2)) },
		func(s *api.Schema) { s.Structs[1].Fields[0].Type = api.Type{Kind: 99} },
		func(s *api.Schema) { s.Structs[1].Fields[0].Type = integer(-5) },
		func(s *api.Schema) { s.Structs[1].Fields[0].Type = integer(0) },
		func(s *api.Schema) { s.Structs[1].Fields[0].Type = unsigned(least) },
		func(s *api.Schema) { s.Structs[1].Fields[0].Type = unsigned(most) },
		func(s *api.Schema) { s.Structs[1].Fields[0].Type = structType("None") },
		func(s *api.Schema) { s.Structs[1].Fields[0].Type = enumType("None") },
		func(s *api.Schema) { s.Structs[1].Fields[0].Type = lists(1<<16-2, boolean()) },
		func(s *api.Schema) { s.Structs[1].Fields = slices.Repeat(s.Structs[1].Fields, 100) },
		func(s *api.Schema) { s.Structs[1].Fields = append(s.Structs[1].Fields, field(0, boolean())) },
		func(s *api.Schema) { slices.Reverse(s.Structs[2].Fields) },
		func(s *api.Schema) { s.Structs = slices.Repeat(s.Structs, 1000) },
		func(s *api.Schema) { s.Structs[0].Name, s.Structs[1].Name = "", "" },
		func(s *api.Schema) { s.Enums[0].Names = nil },
		func(s *api.Schema) { s.Enums[0].Numbers = nil },
		func(s *api.Schema) { s.Enums[0].Numbers = []int{most, least, 5, 5} },
		func(s *api.Schema) { s.Enums[0].Name = "Arm" },
	} {
		s := example()
		change(&s)
		use(s)
	}
}

func TestStrangeSchemas(t *testing.T) {
	types := []api.Type{structType("Arm"), structType("Tag"), structType("Pose"), structType("Free"), structType(""), list(2, structType("Arm")), lists(4, structType("Tag")), enumType("Mode"), boolean(), {}}
	_, values := ofEachKind()
	values = append(values, api.Value{}, natural(most), arm(), items(arm(), arm()), disordered(), record(entry(2, arm())), recorded(6, truth(1)), nested(6, number(1)), recorded(1<<15, items()))
	forStrangeSchemas(func(s api.Schema) {
		for _, x := range types {
			value.Zero(s, x)
			for _, v := range values {
				value.Check(s, x, v)
			}
		}
	})
}

// A struct that has itself in a field that is not optional has no value, and
// sixteen structs in each other's fields would have too many parts.
func TestStructsOfEachOther(t *testing.T) {
	s := structs()
	for i := range 16 {
		var fields []api.Field
		for number := 1; number <= 16; number++ {
			fields = append(fields, field(number, structType(fmt.Sprintf("S%d", (i+1)%16))))
		}
		s.Structs = append(s.Structs, structure(fmt.Sprintf("S%d", i), fields...))
	}
	line := structs(slices.Clone(s.Structs)...)
	line.Structs[15] = structure("S15")
	for i := range 16 {
		for _, x := range []api.Type{structType(fmt.Sprintf("S%d", i)), list(2, structType("S0"))} {
			for _, each := range []api.Schema{s, line} {
				value.Zero(each, x)
				value.Check(each, x, record())
				value.Check(each, x, recorded(6, number(1)))
			}
		}
	}
	self := structs(structure("A", field(1, structType("A"))))
	value.Zero(self, structType("A"))
	if e := value.Check(self, structType("A"), recorded(1000, record())); e != api.ErrDepth {
		t.Error(e)
	}
}

func TestValuesAndTypesOfManyLevels(t *testing.T) {
	const many = 1<<16 - 2
	for _, v := range []api.Value{nested(many, number(1)), recorded(many, number(1))} {
		w := value.With(record(entry(1, v)), 2, number(2))
		path := slices.Repeat([]int{v.Kind - api.KList}, many) // 0 in lists, 1 in structs
		searched(value.At(v, path)).found(t, number(1))
		searched(value.At(v, append(path, 0))).missed(t)
		x, ok := value.Field(w, 1)
		if got := value.Size(w); got != many+3 || value.Compare(v, x) != 0 || !value.Equal(x, v) || !ok {
			t.Errorf("size %d, compared %d", got, value.Compare(v, x))
		}
		if value.Compare(value.Without(w, 2), w) != -1 || value.Compare(v, items()) == 0 {
			t.Error("values of many levels are not told apart")
		}
		exampleChecked(t, boolean(), v, api.ErrDepth)
		exampleChecked(t, lists(many, integer(8)), v, api.ErrDepth)
	}
	exampleChecked(t, lists(many, integer(8)), items(items()), api.OK)
	exampleChecked(t, lists(many, integer(9)), items(items()), api.ErrType)
	zeroed(t, example(), lists(many, integer(8)), items())
	zeroed(t, example(), lists(many, integer(9)), api.Value{})
}

func TestLongArguments(t *testing.T) {
	long := strings.Repeat("\xff", 1<<20)
	wide := items(slices.Repeat([]api.Value{word(long)}, 1000)...)
	fields := api.Value{Kind: api.KStruct}
	for i := range 50000 {
		fields.F = append(fields.F, entry(i, number(int64(i))))
	}
	exampleChecked(t, text(5), word(long), api.ErrLong)
	exampleChecked(t, structType(long), record(), api.ErrType)
	exampleChecked(t, list(32, text(5)), wide, api.ErrLong)
	exampleChecked(t, structType("Pose"), fields, api.ErrType)
	sized(t, fields, 50001)
	compared(t, wide, wide, 0)
	compared(t, fields, value.Without(fields, 49999), 1)
	searched(value.Field(fields, 49999)).found(t, number(49999))
	if got := value.With(fields, -1, truth(1)); len(got.F) != 50001 || got.F[0].Number != -1 {
		t.Errorf("%d entries", len(got.F))
	}
	path := make([]int, 1<<20)
	searched(value.At(fields, path)).missed(t)
}

// R3

// spacious returns the same value, with lists that have spare capacity.
func spacious(v api.Value) api.Value {
	x := v
	x.L, x.F = make([]api.Value, 0, len(v.L)+3), make([]api.Entry, 0, len(v.F)+3)
	for _, y := range v.L {
		x.L = append(x.L, spacious(y))
	}
	for _, f := range v.F {
		x.F = append(x.F, entry(f.Number, spacious(f.Value)))
	}
	return x
}

// everything returns a text of a value with all of its spare capacity.
func everything(v api.Value) string {
	text := fmt.Sprint(v.Kind, v.N, v.S, "[")
	for _, x := range v.L[:cap(v.L)] {
		text += everything(x) + ","
	}
	text += "]{"
	for _, f := range v.F[:cap(v.F)] {
		text += fmt.Sprint(f.Number, everything(f.Value), ",")
	}
	return text + "}"
}

// overwrite changes all of the lists of a value, with their spare capacity.
func overwrite(v api.Value) {
	l, f := v.L[:cap(v.L)], v.F[:cap(v.F)]
	for i := range l {
		overwrite(l[i])
		l[i] = word("overwritten")
	}
	for i := range f {
		overwrite(f[i].Value)
		f[i] = entry(999, word("overwritten"))
	}
}

// made is the result of a function.
type made struct {
	name string
	make func(v, x api.Value) api.Value
}

// makers returns the functions whose results are values, with arguments for
// values such as arm.
func makers() []made {
	first := func(v api.Value, _ bool) api.Value { return v }
	all := []made{
		{"With of x for 9", func(v, x api.Value) api.Value { return value.With(v, 9, x) }},
		{"With of x for 5", func(v, x api.Value) api.Value { return value.With(v, 5, x) }},
		{"With of x for 100", func(v, x api.Value) api.Value { return value.With(v, 100, x) }},
		{"With of v in v", func(v, _ api.Value) api.Value { return value.With(v, 100, v) }},
		{"With of a list", func(v, x api.Value) api.Value { return value.With(items(v, v), 9, x) }},
		{"Without of a list", func(v, _ api.Value) api.Value { return value.Without(items(v, v), 9) }},
	}
	for _, n := range []int{0, 2, 9, 10, 100} {
		all = append(all, made{fmt.Sprintf("Without of %d", n), func(v, _ api.Value) api.Value { return value.Without(v, n) }})
		all = append(all, made{fmt.Sprintf("Field %d", n), func(v, _ api.Value) api.Value { return first(value.Field(v, n)) }})
	}
	for _, path := range [][]int{nil, {2}, {2, 3}, {2, 3, 1}, {10}, {10, 0}, {10, 0, 1}, {10, 7}} {
		all = append(all, made{fmt.Sprint("At ", path), func(v, _ api.Value) api.Value { return first(value.At(v, path)) }})
	}
	return all
}

func TestArgumentsAreNotModified(t *testing.T) {
	v, x := spacious(arm()), spacious(items(arm(), disordered()))
	before := everything(v) + everything(x)
	same := func(name string) {
		if after := everything(v) + everything(x); after != before {
			t.Fatalf("after %s, %s has become %s", name, before, after)
		}
	}
	for _, m := range makers() {
		m.make(v, x)
		m.make(x, v)
		same(m.name)
	}
	for _, a := range []api.Value{v, x} {
		value.Check(example(), structType("Arm"), a)
		value.Check(example(), list(2, structType("Arm")), a)
		value.Compare(a, v)
		value.Equal(a, x)
		value.Size(a)
		same("Check, Compare, Equal and Size")
	}
	path := append(make([]int, 0, 9), 2, 3, 1)
	value.At(v, path)
	if got := fmt.Sprint(path[:9]); got != "[2 3 1 0 0 0 0 0 0]" {
		t.Errorf("the path has become %s", got)
	}
}

func TestSchemasAreNotModified(t *testing.T) {
	shown := func(s api.Schema) string {
		return fmt.Sprintf("%+v%+v", s.Enums[:cap(s.Enums)], s.Structs[:cap(s.Structs)])
	}
	s := example()
	s.Enums, s.Structs = slices.Grow(s.Enums, 5), slices.Grow(s.Structs, 5)
	before := shown(s)
	types, values := ofEachKind()
	types, values = append(types, structType("Arm")), append(values, arm())
	for i, x := range types {
		value.Check(s, x, values[i])
		overwrite(value.Zero(s, x))
		if after := shown(s); after != before || !schema.Same(x, types[i]) {
			t.Errorf("%s has become %s", before, after)
		}
	}
}

// A result and the arguments do not know of each other, nor do two results.
func TestResultsAreNew(t *testing.T) {
	for _, m := range makers() {
		v, x := spacious(arm()), spacious(record(entry(5, items(arm(), truth(1)))))
		want := written(m.make(arm(), renewed(x)))
		before := everything(v) + everything(x)
		overwrite(m.make(v, x))
		if after := everything(v) + everything(x); after != before {
			t.Errorf("%s: %s has become %s", m.name, before, after)
		}
		got := m.make(v, x)
		overwrite(m.make(v, x))
		overwrite(v)
		overwrite(x)
		if written(got) != want {
			t.Errorf("%s: %s has become %s", m.name, want, written(got))
		}
	}
	zero := value.Zero(example(), structType("Arm"))
	want := written(zero)
	overwrite(value.Zero(example(), structType("Arm")))
	if written(zero) != want {
		t.Errorf("%s has become %s", want, written(zero))
	}
}

// apart checks that no two lists of a value share memory.
func apart(t *testing.T, name string, v api.Value) {
	t.Helper()
	seen := map[any]bool{}
	meet := func(place any) {
		if seen[place] {
			t.Errorf("%s: two lists of %s share memory", name, written(v))
		}
		seen[place] = true
	}
	for _, x := range parts(&v) {
		l, f := x.L[:cap(x.L)], x.F[:cap(x.F)]
		for i := range l {
			meet(&l[i])
		}
		for i := range f {
			meet(&f[i])
		}
	}
}

// No two lists of one result share memory, even where those of the arguments
// do.
func TestListsOfResultsAreApart(t *testing.T) {
	shared := items(number(1), record(entry(1, word("a"))), items())
	v := record(entry(2, shared), entry(3, shared), entry(9, items(shared, shared)), entry(10, items(record(entry(1, shared)), shared)))
	for _, m := range makers() {
		apart(t, m.name, m.make(v, shared))
		apart(t, m.name, m.make(items(v, v), v))
	}
	s := structs(structure("Tag", field(1, list(2, boolean())), field(2, structType("Leaf"))), structure("Leaf", field(1, boolean())), structure("Pair", field(1, structType("Tag")), field(2, structType("Tag"))))
	apart(t, "Zero", value.Zero(s, structType("Pair")))
}

// R7

// Nothing of a call is kept.
func TestCallsAreIndependent(t *testing.T) {
	forValues(func(s api.Schema, x api.Type, v api.Value) {
		value.Check(s, x, v)
		value.Zero(s, x)
		if e := value.Check(example(), structType("Arm"), arm()); e != api.OK {
			t.Fatalf("after %+v, %+v, %s: %v", s, x, written(v), e)
		}
		if got := value.Zero(example(), structType("Tag")); written(got) != written(record(entry(1, choice(0)))) {
			t.Fatalf("after %+v, %+v: %s", s, x, written(got))
		}
	})
}
