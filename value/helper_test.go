package value_test

import (
	"fmt"
	"math/big"
	"math/rand"
	"slices"
	"strings"
	"testing"

	"robotics/api"
	"robotics/schema"
	"robotics/value"
)

const (
	least = -1 << 63
	most  = 1<<63 - 1
)

// Types and definitions.

func boolean() api.Type { return api.Type{Kind: api.KBool} }

func integer(size int) api.Type { return api.Type{Kind: api.KInt, Size: size} }

func unsigned(size int) api.Type { return api.Type{Kind: api.KUint, Size: size} }

func text(size int) api.Type { return api.Type{Kind: api.KText, Size: size} }

func structType(name string) api.Type { return api.Type{Kind: api.KStruct, Name: name} }

func enumType(name string) api.Type { return api.Type{Kind: api.KEnum, Name: name} }

func list(size int, elem ...api.Type) api.Type {
	return api.Type{Kind: api.KList, Size: size, Elem: elem}
}

// lists returns a type within so many lists.
func lists(levels int, t api.Type) api.Type {
	for range levels {
		t = list(2, t)
	}
	return t
}

func field(number int, t api.Type) api.Field {
	return api.Field{Number: number, Name: fmt.Sprintf("f%d", number), Type: t}
}

func optional(number int, t api.Type) api.Field {
	f := field(number, t)
	f.Optional = true
	return f
}

func structure(name string, fields ...api.Field) api.Struct {
	return api.Struct{Name: name, Fields: fields}
}

func structs(all ...api.Struct) api.Schema {
	return api.Schema{Version: 1, Structs: all}
}

// chain returns a schema with the structs S1 to S6, each of which but the last
// one has the next one in its field 1.
func chain() api.Schema {
	s := structs(structure("S6", optional(1, boolean())))
	for i := 5; i > 0; i-- {
		s.Structs = append(s.Structs, structure(fmt.Sprintf("S%d", i), optional(1, structType(fmt.Sprintf("S%d", i+1)))))
	}
	return s
}

// example returns the schema of most tests.
func example() api.Schema {
	return api.Schema{
		Version: 1,
		Enums: []api.Enum{
			{Name: "Mode", Names: []string{"idle", "run", "stop"}, Numbers: []int{0, 5, 127}},
			{Name: "Only", Names: []string{"one"}, Numbers: []int{0}},
		},
		Structs: []api.Struct{
			structure("Arm", field(2, structType("Pose")), optional(9, structType("Tag")), field(10, list(3, list(2, unsigned(8))))),
			structure("Tag", field(1, enumType("Mode"))),
			structure("Pose", field(1, integer(8)), optional(3, list(2, structType("Tag"))), field(4, text(3)), optional(127, boolean())),
			structure("Free", optional(1, integer(8)), optional(2, text(3))),
			structure("Empty"),
		},
	}
}

// Values.

func truth(n int64) api.Value { return api.Value{Kind: api.KBool, N: n} }

func number(n int64) api.Value { return api.Value{Kind: api.KInt, N: n} }

func natural(n int64) api.Value { return api.Value{Kind: api.KUint, N: n} }

func word(s string) api.Value { return api.Value{Kind: api.KText, S: s} }

func choice(n int64) api.Value { return api.Value{Kind: api.KEnum, N: n} }

func items(all ...api.Value) api.Value { return api.Value{Kind: api.KList, L: all} }

func record(all ...api.Entry) api.Value { return api.Value{Kind: api.KStruct, F: all} }

func entry(number int, v api.Value) api.Entry { return api.Entry{Number: number, Value: v} }

// nested returns a value within so many lists.
func nested(levels int, v api.Value) api.Value {
	for range levels {
		v = items(v)
	}
	return v
}

// recorded returns a value within so many structs.
func recorded(levels int, v api.Value) api.Value {
	for range levels {
		v = record(entry(1, v))
	}
	return v
}

// written returns a text that is equal for equal values only.
func written(v api.Value) string {
	b := &strings.Builder{}
	write(b, v)
	return b.String()
}

func write(b *strings.Builder, v api.Value) {
	fmt.Fprintf(b, "%d %d %q [", v.Kind, v.N, v.S)
	for _, x := range v.L {
		write(b, x)
		b.WriteString(", ")
	}
	b.WriteString("] {")
	for _, f := range v.F {
		fmt.Fprintf(b, "%d: ", f.Number)
		write(b, f.Value)
		b.WriteString(", ")
	}
	b.WriteString("}")
}

// Checks of results.

func checked(t *testing.T, s api.Schema, x api.Type, v api.Value, want api.Errno) {
	t.Helper()
	if e := value.Check(s, x, v); e != want {
		t.Errorf("Check(%+v, %+v, %s) = %v, want %v", s, x, written(v), e, want)
	}
}

// exampleChecked checks a value of a type of the example.
func exampleChecked(t *testing.T, x api.Type, v api.Value, want api.Errno) {
	t.Helper()
	if e := value.Check(example(), x, v); e != want {
		t.Errorf("Check(%+v, %s) = %v, want %v", x, written(v), e, want)
	}
}

// zeroed checks the zero value of a type.
func zeroed(t *testing.T, s api.Schema, x api.Type, want api.Value) {
	t.Helper()
	if got := value.Zero(s, x); written(got) != written(want) {
		t.Errorf("Zero(%+v, %+v) = %s, want %s", s, x, written(got), written(want))
	}
}

// compared checks Compare and Equal, in both directions.
func compared(t *testing.T, a, b api.Value, want int) {
	t.Helper()
	if got := value.Compare(a, b); got != want {
		t.Errorf("Compare(%s, %s) = %d, want %d", written(a), written(b), got, want)
	}
	if got := value.Compare(b, a); got != -want {
		t.Errorf("Compare(%s, %s) = %d, want %d", written(b), written(a), got, -want)
	}
	if value.Equal(a, b) != (want == 0) || value.Equal(b, a) != (want == 0) {
		t.Errorf("Equal(%s, %s) is not %v", written(a), written(b), want == 0)
	}
}

// became checks that a result is this value.
func became(t *testing.T, got, want api.Value) {
	t.Helper()
	if written(got) != written(want) {
		t.Errorf("%s, want %s", written(got), written(want))
	}
}

// search is what Field or At returned.
type search struct {
	got api.Value
	ok  bool
}

func searched(got api.Value, ok bool) search { return search{got, ok} }

func (x search) found(t *testing.T, want api.Value) {
	t.Helper()
	if !x.ok || written(x.got) != written(want) {
		t.Errorf("%s, %v, want %s", written(x.got), x.ok, written(want))
	}
}

// missed checks that nothing was found, and nothing else returned.
func (x search) missed(t *testing.T) {
	t.Helper()
	if x.ok || written(x.got) != written(api.Value{}) {
		t.Errorf("%s, %v, want nothing", written(x.got), x.ok)
	}
}

// The oracle.

// check is the oracle's Check, for a valid schema with fewer than 16
// definitions.
func check(s api.Schema, t api.Type, v api.Value) api.Errno {
	if levels(v) > 6 {
		return api.ErrDepth
	}
	return append(faults(s, t, v), api.OK)[0]
}

func levels(v api.Value) int {
	greatest := 0
	for _, x := range within(v) {
		greatest = max(greatest, levels(x))
	}
	if len(v.L)+len(v.F) > 0 || v.Kind == api.KList || v.Kind == api.KStruct {
		return 1 + greatest
	}
	return 0
}

// within returns the values directly within a value.
func within(v api.Value) []api.Value {
	all := slices.Clone(v.L)
	for _, f := range v.F {
		all = append(all, f.Value)
	}
	return all
}

// faults returns all errors of a value, and, if it has no ErrType of its own,
// of those within it, in preorder.
func faults(s api.Schema, t api.Type, v api.Value) []api.Errno {
	if !permitted(s, t) || v.Kind != t.Kind || hasMore(v) || v.Kind == api.KStruct && !fits(s, t.Name, v) {
		return []api.Errno{api.ErrType}
	}
	var all []api.Errno
	if !inRange(s, t, v.N) {
		all = append(all, api.ErrRange)
	}
	if t.Size < len(v.L) || v.Kind == api.KText && t.Size < len(v.S) {
		all = append(all, api.ErrLong)
	}
	for _, x := range v.L {
		all = append(all, faults(s, t.Elem[0], x)...)
	}
	x, _ := schema.Struct(s, t.Name)
	for _, f := range v.F {
		y, _ := schema.FieldOf(x, f.Number)
		all = append(all, faults(s, y.Type, f.Value)...)
	}
	return all
}

// permitted asks schema.Check about a field with this type.
func permitted(s api.Schema, t api.Type) bool {
	s.Structs = append(slices.Clone(s.Structs), structure("Question", field(1, t)))
	return schema.Check(s) != api.ErrType
}

// hasMore reports whether a value has more than its kind uses.
func hasMore(v api.Value) bool {
	usesN := v.Kind == api.KBool || v.Kind == api.KInt || v.Kind == api.KUint || v.Kind == api.KEnum
	return v.N != 0 && !usesN || v.S != "" && v.Kind != api.KText ||
		len(v.L) > 0 && v.Kind != api.KList || len(v.F) > 0 && v.Kind != api.KStruct
}

// fits reports whether a value has the fields of a struct.
func fits(s api.Schema, name string, v api.Value) bool {
	x, _ := schema.Struct(s, name)
	var numbers []int
	for _, f := range v.F {
		if _, ok := schema.FieldOf(x, f.Number); !ok || slices.Contains(numbers, f.Number) {
			return false
		}
		numbers = append(numbers, f.Number)
	}
	for _, f := range x.Fields {
		if !f.Optional && !slices.Contains(numbers, f.Number) {
			return false
		}
	}
	return slices.IsSorted(numbers)
}

// inRange reports whether a value of a type may have this number.
func inRange(s api.Schema, t api.Type, n int64) bool {
	power := func(exponent int) *big.Int { return new(big.Int).Lsh(big.NewInt(1), uint(exponent)) }
	x := big.NewInt(n)
	switch t.Kind {
	case api.KBool:
		return x.Sign() >= 0 && x.Cmp(power(1)) < 0
	case api.KInt:
		return x.Cmp(new(big.Int).Neg(power(t.Size-1))) >= 0 && x.Cmp(power(t.Size-1)) < 0
	case api.KUint:
		return x.Sign() >= 0 && x.Cmp(power(t.Size)) < 0
	case api.KEnum:
		y, _ := schema.Enum(s, t.Name)
		return slices.ContainsFunc(y.Numbers, func(number int) bool { return big.NewInt(int64(number)).Cmp(x) == 0 })
	}
	return true
}

// spelled returns a list of numbers for a value. The order of the values is
// that of these lists, one number after the other: what goes on begins with a
// number that is greater than 0, with which each list ends.
func spelled(v api.Value) []int64 {
	all := []int64{int64(v.Kind), v.N}
	for _, b := range []byte(v.S) {
		all = append(all, int64(b)+1)
	}
	all = append(all, 0)
	for _, x := range v.L {
		all = append(append(all, 1), spelled(x)...)
	}
	all = append(all, 0)
	for _, f := range v.F {
		all = append(append(all, 1, int64(f.Number)), spelled(f.Value)...)
	}
	return append(all, 0)
}

// Random schemas and values.

// randomSchema returns a valid schema, each of whose structs has only those
// before it in its fields.
func randomSchema(r *rand.Rand) api.Schema {
	for {
		s := api.Schema{Version: 1, Enums: example().Enums}
		for i := range 1 + r.Intn(6) {
			x := structure(fmt.Sprintf("S%d", i))
			for number := 1; number < 9; number += 1 + r.Intn(5) {
				f := field(number, randomType(r, s))
				f.Optional = r.Intn(2) == 0
				x.Fields = append(x.Fields, f)
			}
			s.Structs = append(s.Structs, x)
		}
		if schema.Check(s) == api.OK {
			return s
		}
	}
}

// randomType returns a permitted type of a schema.
func randomType(r *rand.Rand, s api.Schema) api.Type {
	switch n := r.Intn(9); {
	case n < 2 && len(s.Structs) > 0:
		return structType(s.Structs[r.Intn(len(s.Structs))].Name)
	case n < 4:
		return list(1+r.Intn(4), randomType(r, s))
	case n == 4:
		return enumType(s.Enums[r.Intn(2)].Name)
	case n == 5:
		return text(1 + r.Intn(5))
	case n == 6:
		return unsigned(8 << r.Intn(3))
	case n == 7:
		return integer(8 << r.Intn(4))
	}
	return boolean()
}

// randomValue returns a value of a permitted type, which may have too many
// levels.
func randomValue(r *rand.Rand, s api.Schema, t api.Type) api.Value {
	v := api.Value{Kind: t.Kind}
	switch t.Kind {
	case api.KBool, api.KInt, api.KUint, api.KEnum:
		for v.N = randomNumber(r); !inRange(s, t, v.N); {
			v.N = randomNumber(r)
		}
	case api.KText:
		v.S = strings.Repeat("a\xffb", 5)[:r.Intn(t.Size+1)]
	case api.KList:
		for range r.Intn(t.Size + 1) {
			v.L = append(v.L, randomValue(r, s, t.Elem[0]))
		}
	case api.KStruct:
		x, _ := schema.Struct(s, t.Name)
		for _, f := range x.Fields {
			if !f.Optional || r.Intn(2) == 0 {
				v.F = append(v.F, entry(f.Number, randomValue(r, s, f.Type)))
			}
		}
	}
	return v
}

// randomNumber returns a number at or beside the bounds of a range, or a small
// one.
func randomNumber(r *rand.Rand) int64 {
	if r.Intn(2) == 0 {
		return int64(r.Intn(8))
	}
	return []int64{-1, 1, 1}[r.Intn(3)]<<[]int{0, 7, 8, 15, 16, 31, 32, 63}[r.Intn(8)] + int64(r.Intn(3)) - 1
}

// parts returns pointers to a value and to all values within it.
func parts(v *api.Value) []*api.Value {
	all := []*api.Value{v}
	for i := range v.L {
		all = append(all, parts(&v.L[i])...)
	}
	for i := range v.F {
		all = append(all, parts(&v.F[i].Value)...)
	}
	return all
}

// damage changes something of a value, which belongs to the caller alone.
func damage(r *rand.Rand, v *api.Value) {
	all := parts(v)
	x := all[r.Intn(len(all))]
	other := *all[r.Intn(len(all))]
	switch r.Intn(10) {
	case 0:
		x.Kind = r.Intn(10) - 1
	case 1, 2:
		x.N = randomNumber(r)
	case 3:
		x.S += strings.Repeat("c", r.Intn(4))
	case 4:
		x.L = append(x.L, renewed(other))
	case 5:
		x.L = slices.Repeat(x.L, r.Intn(3))
	case 6:
		x.F = append(x.F, entry(r.Intn(10), renewed(other)))
	case 7:
		if len(x.F) > 0 {
			x.F[r.Intn(len(x.F))].Number = r.Intn(10)
		}
	case 8:
		x.F = x.F[:r.Intn(len(x.F)+1)]
	default:
		*x = renewed(other)
	}
	*v = renewed(*v)
}

// renewed returns the same value, in new memory.
func renewed(v api.Value) api.Value {
	x := api.Value{Kind: v.Kind, N: v.N, S: v.S}
	for _, y := range v.L {
		x.L = append(x.L, renewed(y))
	}
	for _, f := range v.F {
		x.F = append(x.F, entry(f.Number, renewed(f.Value)))
	}
	return x
}

// forValues calls check with random values of types of random schemas, and
// with such values after some damage.
func forValues(check func(s api.Schema, t api.Type, v api.Value)) {
	r := rand.New(rand.NewSource(1))
	for range 1500 {
		s := randomSchema(r)
		for range 4 {
			t := randomType(r, s)
			v := randomValue(r, s, t)
			check(s, t, v)
			v = renewed(v)
			for range 1 + r.Intn(3) {
				damage(r, &v)
				check(s, t, v)
			}
		}
	}
}

// someValues returns different values, many of them not valid, some of which
// begin with others.
func someValues() []api.Value {
	all := []api.Value{
		{}, {Kind: -1}, {Kind: least}, {Kind: 8, N: 3}, {Kind: most}, {N: 1}, {N: -1}, {S: "a"},
		truth(0), truth(1), truth(2), number(-128), number(-1), number(0), number(2), number(10), number(least), number(most),
		natural(0), natural(2), natural(1 << 32), word(""), word("a"), word("ab"), word("b"), word("B"), word("\xff"), word("\x00"), word("\u00e4"),
		choice(0), choice(5), items(), record(), record(entry(least, word(""))), record(entry(most, truth(0))),
		{Kind: api.KText, N: 7, S: "a"}, {Kind: api.KInt, N: 1, S: "a", L: []api.Value{{}}, F: []api.Entry{{}}},
	}
	for _, v := range slices.Clone(all) {
		all = append(all, items(v), items(v, v), items(number(1), v), items(v, number(1)), items(items(v)),
			record(entry(1, v)), record(entry(2, v)), record(entry(1, v), entry(2, v)), record(entry(1, number(1)), entry(2, v)), record(entry(1, v), entry(1, v)),
			api.Value{L: []api.Value{v}, F: []api.Entry{entry(3, v)}}, record(entry(1, items(v, v))))
	}
	seen := map[string]bool{}
	return slices.DeleteFunc(all, func(v api.Value) bool {
		was := seen[written(v)]
		seen[written(v)] = true
		return was
	})
}
