package schema_test

import (
	"encoding/binary"
	"fmt"
	"math/rand"
	"regexp"
	"slices"
	"strings"
	"testing"

	"robotics/api"
	"robotics/checksum"
	"robotics/schema"
)

const (
	least = -1 << 63
	most  = 1<<63 - 1
)

// Types, fields and definitions.

func boolean() api.Type { return api.Type{Kind: api.KBool} }

func integer(size int) api.Type { return api.Type{Kind: api.KInt, Size: size} }

func unsigned(size int) api.Type { return api.Type{Kind: api.KUint, Size: size} }

func text(size int) api.Type { return api.Type{Kind: api.KText, Size: size} }

func structType(name string) api.Type { return api.Type{Kind: api.KStruct, Name: name} }

func enumType(name string) api.Type { return api.Type{Kind: api.KEnum, Name: name} }

func list(size int, elem ...api.Type) api.Type {
	return api.Type{Kind: api.KList, Size: size, Elem: elem}
}

// lists returns a type within so many lists.
func lists(levels int, t api.Type) api.Type {
	for range levels {
		t = list(1, t)
	}
	return t
}

func field(number int, name string, t api.Type) api.Field {
	return api.Field{Number: number, Name: name, Type: t}
}

func structure(name string, fields ...api.Field) api.Struct {
	return api.Struct{Name: name, Fields: fields}
}

// record returns a struct with a field for each of the types.
func record(name string, types ...api.Type) api.Struct {
	t := api.Struct{Name: name}
	for i, x := range types {
		t.Fields = append(t.Fields, field(i+1, letter(i), x))
	}
	return t
}

// letter returns the name a, b, and so on.
func letter(i int) string {
	return string(rune('a' + i))
}

// mode returns an enumeration of one name.
func mode(name string) api.Enum {
	return api.Enum{Name: name, Names: []string{"off"}, Numbers: []int{0}}
}

func structs(all ...api.Struct) api.Schema {
	return api.Schema{Version: 1, Structs: all}
}

func enums(all ...api.Enum) api.Schema {
	return api.Schema{Version: 1, Enums: all}
}

// example returns the schema of the chapter.
func example() api.Schema {
	return api.Schema{
		Version: 1,
		Enums:   []api.Enum{{Name: "Mode", Names: []string{"idle", "run"}, Numbers: []int{0, 1}}},
		Structs: []api.Struct{
			structure("Tag", field(1, "mode", enumType("Mode"))),
			structure("Pose", field(1, "x", integer(32)), field(3, "tags", list(4, structType("Tag")))),
		},
	}
}

// changed returns the schema of the chapter after a change.
func changed(change func(s *api.Schema)) api.Schema {
	s := example()
	change(&s)
	return s
}

// checked checks the result of Check.
func checked(t *testing.T, s api.Schema, want api.Errno) {
	t.Helper()
	if e := schema.Check(s); e != want {
		t.Errorf("Check(%+v) = %v, want %v", s, e, want)
	}
}

// examined checks the results of Depth, Uses and Digest, whose description is
// given by its parts.
func examined(t *testing.T, s api.Schema, name string, depth int, uses []string, description ...string) {
	t.Helper()
	if got := schema.Depth(s, name); got != depth {
		t.Errorf("Depth(%+v, %q) = %d, want %d", s, name, got, depth)
	}
	if got := schema.Uses(s, name); !slices.Equal(got, uses) {
		t.Errorf("Uses(%+v, %q) = %q, want %q", s, name, got, uses)
	}
	if got, want := schema.Digest(s, name), checksum.Hash(strings.Join(description, "")); got != want {
		t.Errorf("Digest(%+v, %q) = %016x, want %016x", s, name, got, want)
	}
}

// nothing checks that Depth, Uses and Digest return their zero values.
func nothing(t *testing.T, s api.Schema, names ...string) {
	t.Helper()
	for _, name := range names {
		if depth, uses, digest := schema.Depth(s, name), schema.Uses(s, name), schema.Digest(s, name); depth != 0 || len(uses) != 0 || digest != 0 {
			t.Errorf("of %+v, %q has the depth %d, uses %q and has the digest %016x", s, name, depth, uses, digest)
		}
	}
}

// The oracle.

var (
	properName     = regexp.MustCompile(`^[a-zA-Z][a-zA-Z0-9_]{0,15}$`)
	properTypeName = regexp.MustCompile(`^[A-Z][a-zA-Z0-9_]{0,15}$`)
)

// check is the oracle's Check: of the rules of the chapter, in its order, it
// returns the error of the first one that is broken.
func check(s api.Schema) api.Errno {
	first := api.OK
	rule := func(e api.Errno, broken bool) {
		if first == api.OK && broken {
			first = e
		}
	}
	rule(api.ErrRange, s.Version < 1 || s.Version > 999)
	rule(api.ErrLong, len(s.Enums)+len(s.Structs) > 16)
	for _, x := range s.Enums {
		rule(api.ErrLong, len(x.Names) > 16)
	}
	for _, x := range s.Structs {
		rule(api.ErrLong, len(x.Fields) > 16)
	}
	for i, x := range s.Enums {
		rule(api.ErrName, !properTypeName.MatchString(x.Name))
		rule(api.ErrExists, hasEnum(s.Enums[:i], x.Name))
		enumRules(x, rule)
	}
	for i, x := range s.Structs {
		rule(api.ErrName, !properTypeName.MatchString(x.Name))
		rule(api.ErrExists, hasEnum(s.Enums, x.Name) || hasStruct(s.Structs[:i], x.Name))
		structRules(s, x, rule)
	}
	if first != api.OK {
		return first // nesting makes no sense of such a schema
	}
	used := relation(s)
	for _, x := range s.Structs {
		rule(api.ErrCycle, used[[2]string{x.Name, x.Name}])
	}
	if first == api.OK {
		for _, depth := range depths(s) {
			rule(api.ErrDepth, depth > 6)
		}
	}
	return first
}

func enumRules(x api.Enum, rule func(api.Errno, bool)) {
	rule(api.ErrFormat, len(x.Names) == 0 || len(x.Names) != len(x.Numbers))
	for i := range min(len(x.Names), len(x.Numbers)) {
		rule(api.ErrName, !properName.MatchString(x.Names[i]))
		rule(api.ErrExists, slices.Contains(x.Names[:i], x.Names[i]))
		rule(api.ErrRange, x.Numbers[i] < 0 || x.Numbers[i] > 127)
		if i == 0 {
			rule(api.ErrFormat, x.Numbers[i] != 0)
		} else {
			rule(api.ErrFormat, x.Numbers[i] <= x.Numbers[i-1])
		}
	}
}

func structRules(s api.Schema, x api.Struct, rule func(api.Errno, bool)) {
	for i, f := range x.Fields {
		rule(api.ErrRange, f.Number < 1 || f.Number > 127)
		rule(api.ErrFormat, i > 0 && f.Number <= x.Fields[max(i, 1)-1].Number)
		rule(api.ErrName, !properName.MatchString(f.Name))
		rule(api.ErrExists, slices.ContainsFunc(x.Fields[:i], func(g api.Field) bool { return g.Name == f.Name }))
		rule(api.ErrType, !permitted(s, f.Type))
	}
}

func hasStruct(all []api.Struct, name string) bool {
	return slices.ContainsFunc(all, func(x api.Struct) bool { return x.Name == name })
}

func hasEnum(all []api.Enum, name string) bool {
	return slices.ContainsFunc(all, func(x api.Enum) bool { return x.Name == name })
}

// permitted is the oracle's definition of a valid type: one that is written
// like one of those that are built from its parts.
func permitted(s api.Schema, t api.Type) bool {
	var all []api.Type
	switch t.Kind {
	case api.KBool:
		all = append(all, boolean())
	case api.KInt:
		all = append(all, integer(8), integer(16), integer(32), integer(64))
	case api.KUint:
		all = append(all, unsigned(8), unsigned(16), unsigned(32))
	case api.KText:
		all = append(all, text(min(max(t.Size, 1), 2000)))
	case api.KList:
		if len(t.Elem) != 1 || !permitted(s, t.Elem[0]) {
			return false
		}
		all = append(all, list(min(max(t.Size, 1), 32), t.Elem[0]))
	case api.KStruct:
		for _, x := range s.Structs {
			all = append(all, structType(x.Name))
		}
	case api.KEnum:
		for _, x := range s.Enums {
			all = append(all, enumType(x.Name))
		}
	}
	return slices.ContainsFunc(all, func(x api.Type) bool { return written(x) == written(t) })
}

// written returns a text that is equal for equal types only.
func written(t api.Type) string {
	var elem []string
	for _, x := range t.Elem {
		elem = append(elem, written(x))
	}
	return fmt.Sprintf("%d %d %q (%s)", t.Kind, t.Size, t.Name, strings.Join(elem, ", "))
}

// relation is the oracle's relation of using, of a schema whose definitions
// are valid by themselves.
func relation(s api.Schema) map[[2]string]bool {
	used := map[[2]string]bool{}
	var names []string
	for _, x := range s.Structs {
		names = append(names, x.Name)
		for _, f := range x.Fields {
			used[[2]string{x.Name, within(f.Type).Name}] = true
		}
	}
	for _, x := range s.Enums {
		names = append(names, x.Name)
	}
	for _, b := range names {
		for _, a := range names {
			if !used[[2]string{a, b}] {
				continue
			}
			for _, c := range names {
				if used[[2]string{b, c}] {
					used[[2]string{a, c}] = true
				}
			}
		}
	}
	return used
}

// within returns what is in the innermost list of a type.
func within(t api.Type) api.Type {
	if len(t.Elem) == 1 {
		return within(t.Elem[0])
	}
	return t
}

// depths is the oracle's depths of the structs, of a schema without cycles:
// with each round, those of one more level are right.
func depths(s api.Schema) map[string]int {
	all := map[string]int{}
	for range len(s.Structs) {
		for _, x := range s.Structs {
			depth := 1
			for _, f := range x.Fields {
				depth = max(depth, 1+strings.Count(written(f.Type), "(")-1+all[within(f.Type).Name])
			}
			all[x.Name] = depth
		}
	}
	return all
}

// uses is the oracle's Uses, of a relation.
func uses(used map[[2]string]bool, name string) []string {
	var all []string
	for pair := range used {
		if pair[0] == name && pair[1] != "" {
			all = append(all, pair[1])
		}
	}
	slices.Sort(all)
	return all
}

// description is what the digest of a struct of a valid schema is a hash of,
// if these are the names of what it uses.
func description(s api.Schema, name string, uses []string) string {
	b := &buffer{}
	for _, described := range append([]string{name}, uses...) {
		for _, x := range s.Structs {
			if x.Name == described {
				b.structure(x)
			}
		}
		for _, x := range s.Enums {
			if x.Name == described {
				b.enum(x)
			}
		}
	}
	return string(b.bytes)
}

// buffer is a description that is being written.
type buffer struct{ bytes []byte }

func (b *buffer) number(n int) { b.bytes = binary.AppendUvarint(b.bytes, uint64(n)) }

func (b *buffer) text(s string) {
	b.number(len(s))
	b.bytes = append(b.bytes, s...)
}

func (b *buffer) structure(x api.Struct) {
	b.number(6)
	b.text(x.Name)
	b.number(len(x.Fields))
	for _, f := range x.Fields {
		b.number(f.Number)
		b.text(f.Name)
		b.typed(f.Type)
		b.number(map[bool]int{true: 1}[f.Optional])
	}
}

func (b *buffer) enum(x api.Enum) {
	b.number(7)
	b.text(x.Name)
	b.number(len(x.Names))
	for i, name := range x.Names {
		b.text(name)
		b.number(x.Numbers[i])
	}
}

func (b *buffer) typed(t api.Type) {
	b.number(t.Kind)
	b.number(t.Size)
	b.text(t.Name)
	b.number(len(t.Elem))
	for _, x := range t.Elem {
		b.typed(x)
	}
}

// Random schemas.

// pool returns type names, some of which begin with others, in ascending order.
func pool() []string {
	return []string{"A", "A0", "A1", "AB", "A_", "Aa", "Ab", "Abcdefghijklmnop", "B", "B1", "B10", "B2", "M", "Pose", "Z", "ZZ"}
}

// randomSchema returns a schema that is most often valid; a few of its structs
// may be too deep.
func randomSchema(r *rand.Rand) api.Schema {
	names := pool()
	r.Shuffle(len(names), func(i, k int) { names[i], names[k] = names[k], names[i] })
	names = names[:r.Intn(len(names)+1)]
	s := api.Schema{Version: 1 + r.Intn(999)}
	for i, name := range names {
		if r.Intn(3) == 0 {
			s.Enums = append(s.Enums, randomEnum(r, name))
			continue
		}
		// Only what was chosen before is used, so that there are no cycles.
		s.Structs = append(s.Structs, randomStruct(r, name, s, i))
	}
	shuffle(r, &s)
	return s
}

func shuffle(r *rand.Rand, s *api.Schema) {
	r.Shuffle(len(s.Enums), func(i, k int) { s.Enums[i], s.Enums[k] = s.Enums[k], s.Enums[i] })
	r.Shuffle(len(s.Structs), func(i, k int) { s.Structs[i], s.Structs[k] = s.Structs[k], s.Structs[i] })
}

// randomNumbers returns numbers that ascend from first on.
func randomNumbers(r *rand.Rand, first int) []int {
	all := []int{first}
	for len(all) < 16 && r.Intn(3) > 0 {
		all = append(all, all[len(all)-1]+1+r.Intn(7))
	}
	return all
}

func randomEnum(r *rand.Rand, name string) api.Enum {
	x := api.Enum{Name: name, Numbers: randomNumbers(r, 0)}
	for i := range x.Numbers {
		x.Names = append(x.Names, letter(i)+strings.Repeat("x", r.Intn(4)))
	}
	return x
}

func randomStruct(r *rand.Rand, name string, s api.Schema, seed int) api.Struct {
	x := api.Struct{Name: name}
	for i, number := range randomNumbers(r, 1+r.Intn(5)) {
		if i == 0 && r.Intn(8) == 0 {
			break
		}
		f := field(number, letter(i)+fmt.Sprint(seed), randomType(r, s))
		f.Optional = r.Intn(3) == 0
		x.Fields = append(x.Fields, f)
	}
	return x
}

// randomType returns a valid type of a schema.
func randomType(r *rand.Rand, s api.Schema) api.Type {
	switch n := r.Intn(12); {
	case n < 3 && len(s.Structs) > 0:
		return structType(s.Structs[r.Intn(len(s.Structs))].Name)
	case n < 5 && len(s.Enums) > 0:
		return enumType(s.Enums[r.Intn(len(s.Enums))].Name)
	case n == 5:
		return list(1+r.Intn(32), randomType(r, s))
	case n == 6:
		return boolean()
	case n == 7:
		return unsigned(8 << r.Intn(3))
	case n < 10:
		return text(1 + r.Intn(2000))
	}
	return integer(8 << r.Intn(4))
}

// damage changes something of a schema; most often, it is not valid afterwards.
func damage(r *rand.Rand, s *api.Schema) {
	switch r.Intn(8) {
	case 0:
		s.Version = []int{least, -1, 0, 1, 999, 1000, most}[r.Intn(7)]
	case 1:
		s.Enums = append(s.Enums, mode(pool()[r.Intn(16)]))
	case 2:
		s.Structs = append(s.Structs, structure(pool()[r.Intn(16)]))
	case 3, 4:
		if len(s.Enums) > 0 {
			damageEnum(r, &s.Enums[r.Intn(len(s.Enums))])
		}
	default:
		if len(s.Structs) > 0 {
			damageStruct(r, *s, &s.Structs[r.Intn(len(s.Structs))])
		}
	}
}

func someName(r *rand.Rand) string {
	names := append(pool(), "", "a", "b", "a0", "1", "_", "a-", "\u00e4", "Abcdefghijklmnopq", "a b", "A\n")
	return names[r.Intn(len(names))]
}

func damageEnum(r *rand.Rand, x *api.Enum) {
	switch r.Intn(6) {
	case 0:
		x.Name = someName(r)
	case 1:
		x.Names = slices.Repeat(x.Names, r.Intn(4))
	case 2:
		x.Numbers = x.Numbers[:r.Intn(len(x.Numbers)+1)]
	case 3:
		x.Numbers = append(x.Numbers, r.Intn(128))
		x.Names = append(x.Names, someName(r))
	case 4:
		if len(x.Names) > 0 {
			x.Names[r.Intn(len(x.Names))] = someName(r)
		}
	default:
		if len(x.Numbers) > 0 {
			x.Numbers[r.Intn(len(x.Numbers))] = []int{least, -1, 0, 1, 5, 127, 128, most}[r.Intn(8)]
		}
	}
}

func damageStruct(r *rand.Rand, s api.Schema, x *api.Struct) {
	if len(x.Fields) == 0 {
		x.Fields = append(x.Fields, field(1, "a", randomType(r, s)))
	}
	f := &x.Fields[r.Intn(len(x.Fields))]
	switch r.Intn(8) {
	case 0:
		x.Name = someName(r)
	case 1:
		x.Fields = slices.Repeat(x.Fields, r.Intn(4))
	case 2:
		f.Number = []int{least, -1, 0, 1, 5, 127, 128, most}[r.Intn(8)]
	case 3:
		f.Name = someName(r)
	case 4:
		f.Type = randomType(r, s) // which may close a cycle
	case 5:
		f.Type = lists(r.Intn(7), f.Type)
	default:
		damageType(r, &f.Type)
	}
}

func damageType(r *rand.Rand, t *api.Type) {
	if len(t.Elem) > 0 && r.Intn(2) == 0 {
		t = &t.Elem[0]
	}
	switch r.Intn(5) {
	case 0:
		t.Kind = r.Intn(10) - 1
	case 1:
		t.Size = []int{least, -8, 0, 1, 8, 16, 24, 32, 33, 64, 128, 2000, 2001, most}[r.Intn(14)]
	case 2:
		t.Name = someName(r)
	case 3:
		t.Elem = append(t.Elem, boolean())
	default:
		t.Elem = nil
	}
}

// forSchemas calls check with random schemas, about half of them valid ones.
func forSchemas(check func(s api.Schema)) {
	r := rand.New(rand.NewSource(1))
	for range 5000 {
		s := randomSchema(r)
		check(s)
		for range 1 + r.Intn(2) {
			damage(r, &s)
		}
		check(s)
	}
}
