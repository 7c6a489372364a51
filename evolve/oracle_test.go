package evolve_test

import (
	"cmp"
	"fmt"
	"maps"
	"math/rand"
	"slices"

	"robotics/api"
	"robotics/evolve"
	"robotics/schema"
	"robotics/schematext"
)

// The oracle: the chapter's definitions.

// widens is the oracle's Widens.
func widens(a, b api.Type) bool {
	if schema.Same(a, b) {
		return true
	}
	if a.Kind != b.Kind || a.Name != b.Name {
		return false
	}
	switch a.Kind {
	case api.KInt, api.KUint:
		return b.Size > a.Size && slices.EqualFunc(a.Elem, b.Elem, schema.Same)
	case api.KText:
		return b.Size >= a.Size && slices.EqualFunc(a.Elem, b.Elem, schema.Same)
	case api.KList:
		return len(a.Elem) == 1 && len(b.Elem) == 1 && b.Size >= a.Size && widens(a.Elem[0], b.Elem[0])
	}
	return false
}

// definition is what a valid schema has of a name.
type definition struct {
	isStruct, isEnum bool
	fields           map[int]api.Field
	names            map[int]string
}

func define(s api.Schema, name string) definition {
	d := definition{fields: map[int]api.Field{}, names: map[int]string{}}
	for _, x := range s.Structs {
		if x.Name == name {
			d.isStruct = true
			for _, f := range x.Fields {
				d.fields[f.Number] = f
			}
		}
	}
	for _, x := range s.Enums {
		if x.Name == name {
			d.isEnum = true
			for i, number := range x.Numbers {
				d.names[number] = x.Names[i]
			}
		}
	}
	return d
}

// holds reports whether there is an issue of a kind and a number.
func holds(old, new definition, kind, number int) bool {
	if old.isStruct != new.isStruct {
		return kind == 5 && number == 0
	}
	f, inOld := old.fields[number]
	g, inNew := new.fields[number]
	switch kind {
	case 1:
		return inOld && inNew && !widens(f.Type, g.Type)
	case 2:
		return inOld && !inNew && !f.Optional || inNew && !inOld && !g.Optional
	case 3:
		return inOld && inNew && f.Optional != g.Optional
	case 4:
		_, inOld := old.names[number]
		_, inNew := new.names[number]
		return old.isEnum && new.isEnum && inOld && !inNew
	}
	return false
}

// issues is the oracle's Issues.
func issues(old, new api.Schema, name string) []evolve.Issue {
	var all []evolve.Issue
	if schema.Check(old) != api.OK || schema.Check(new) != api.OK {
		return all
	}
	names := map[string]bool{name: true}
	for _, used := range schema.Uses(old, name) {
		if slices.Contains(schema.Uses(new, name), used) {
			names[used] = true
		}
	}
	for _, n := range slices.Sorted(maps.Keys(names)) {
		x, y := define(old, n), define(new, n)
		for kind := 1; kind <= 5; kind++ {
			for number := range 128 {
				if holds(x, y, kind, number) {
					all = append(all, evolve.Issue{Kind: kind, Number: number, Type: n})
				}
			}
		}
	}
	return all
}

// project is the oracle's Project.
func project(s api.Schema, name string, v api.Value) api.Value {
	if !has(s, name) {
		return v
	}
	return projectType(s, structType(name), v)
}

func projectType(s api.Schema, t api.Type, v api.Value) api.Value {
	if v.Kind == api.KStruct && t.Kind == api.KStruct {
		fields := define(s, t.Name).fields
		var kept []api.Entry
		for _, x := range v.F {
			if f, ok := fields[x.Number]; ok {
				kept = append(kept, entry(x.Number, projectType(s, f.Type, x.Value)))
			}
		}
		v.F = kept
	}
	if v.Kind == api.KList && t.Kind == api.KList {
		var kept []api.Value
		for _, x := range v.L {
			kept = append(kept, projectType(s, t.Elem[0], x))
		}
		v.L = kept
	}
	return v
}

// merge is the oracle's Merge.
func merge(a, b api.Schema) (api.Schema, api.Errno) {
	for _, s := range []api.Schema{a, b} {
		if e := schema.Check(s); e != api.OK {
			return api.Schema{}, e
		}
	}
	m := api.Schema{Version: a.Version}
	if b.Version > a.Version {
		m.Version = b.Version
	}
	for _, name := range allNames(a, b) {
		x, y := define(a, name), define(b, name)
		if conflict(x, y) {
			return api.Schema{}, api.ErrIncompatible
		}
		if x.isEnum || y.isEnum {
			m.Enums = append(m.Enums, enumOf(name, x.names, y.names))
		} else {
			m.Structs = append(m.Structs, structOfBoth(name, x.fields, y.fields))
		}
	}
	if e := schema.Check(m); e != api.OK {
		return api.Schema{}, e
	}
	return m, api.OK
}

// allNames returns the names of a, and then those that only b has.
func allNames(a, b api.Schema) []string {
	var all []string
	for _, s := range []api.Schema{a, b} {
		for _, x := range s.Enums {
			all = append(all, x.Name)
		}
		for _, x := range s.Structs {
			all = append(all, x.Name)
		}
	}
	seen := map[string]bool{}
	return slices.DeleteFunc(all, func(name string) bool {
		again := seen[name]
		seen[name] = true
		return again
	})
}

// conflict reports whether two definitions of a name cannot be merged.
func conflict(x, y definition) bool {
	if x.isStruct && y.isEnum || x.isEnum && y.isStruct {
		return true
	}
	for i, name := range x.names {
		for k, other := range y.names {
			if (i == k) != (name == other) {
				return true
			}
		}
	}
	if !x.isStruct || !y.isStruct {
		return false
	}
	for number := range 128 {
		f, inX := x.fields[number]
		g, inY := y.fields[number]
		if inX != inY && !f.Optional && !g.Optional {
			return true
		}
		if inX && inY && (f.Optional != g.Optional || !widens(f.Type, g.Type) && !widens(g.Type, f.Type)) {
			return true
		}
	}
	return false
}

// enumOf returns the enumeration with the names of both maps.
func enumOf(name string, x, y map[int]string) api.Enum {
	all := maps.Clone(x)
	maps.Copy(all, y)
	merged := api.Enum{Name: name, Numbers: slices.Sorted(maps.Keys(all))}
	for _, number := range merged.Numbers {
		merged.Names = append(merged.Names, all[number])
	}
	return merged
}

// structOfBoth returns the struct with the fields of both maps.
func structOfBoth(name string, x, y map[int]api.Field) api.Struct {
	all := maps.Clone(x)
	for number, f := range y {
		if g, ok := x[number]; ok {
			f.Name = g.Name
			if !widens(g.Type, f.Type) {
				f.Type = g.Type
			}
		}
		all[number] = f
	}
	merged := api.Struct{Name: name}
	for _, number := range slices.Sorted(maps.Keys(all)) {
		merged.Fields = append(merged.Fields, all[number])
	}
	return merged
}

// Random schemas, versions of them, and values.

func pick[T any](r *rand.Rand, of ...T) T {
	return of[r.Intn(len(of))]
}

// randomSchema returns a schema of some of the names A to G, of which those
// that are structs have only those behind them in their fields.
func randomSchema(r *rand.Rand) api.Schema {
	for {
		s := api.Schema{Version: 1 + r.Intn(5)}
		var known []api.Type
		for _, i := range r.Perm(7)[:1+r.Intn(7)] {
			name := string(rune('A' + i))
			if r.Intn(4) == 0 {
				s.Enums = append(s.Enums, randomEnum(r, name))
				known = append(known, enumType(name))
			} else {
				s.Structs = append(s.Structs, randomStruct(r, name, known))
				known = append(known, structType(name))
			}
		}
		if schema.Check(s) == api.OK { // Some are too deep.
			return s
		}
	}
}

// enumName returns the name that a number of an enumeration mostly has.
func enumName(number int) string { return fmt.Sprintf("n%d", number) }

func randomEnum(r *rand.Rand, name string) api.Enum {
	x := api.Enum{Name: name}
	for number := 0; number < 128; number += pick(r, 1, 1, 2, 3, 100) {
		x.Names, x.Numbers = append(x.Names, enumName(number)), append(x.Numbers, number)
		if r.Intn(3) == 0 {
			break
		}
	}
	return x
}

// fieldName returns the name that a field mostly has.
func fieldName(number int) string { return fmt.Sprintf("f%d", number) }

func randomStruct(r *rand.Rand, name string, known []api.Type) api.Struct {
	x := api.Struct{Name: name}
	for number := r.Intn(3); number < 128; number += pick(r, 1, 1, 1, 2, 100) {
		if number > 0 {
			x.Fields = append(x.Fields, randomField(r, number, known))
		}
		if r.Intn(5) == 0 || len(x.Fields) == 16 {
			break
		}
	}
	return x
}

func randomField(r *rand.Rand, number int, known []api.Type) api.Field {
	return api.Field{Number: number, Name: fieldName(number), Type: randomType(r, known), Optional: r.Intn(2) == 0}
}

func randomType(r *rand.Rand, known []api.Type) api.Type {
	switch {
	case r.Intn(3) == 0 && len(known) > 0:
		return clonedType(pick(r, known...))
	case r.Intn(4) == 0:
		return listType(1+r.Intn(4), randomType(r, known))
	}
	return typeOf(pick(r, "bool", "int8", "int16", "int32", "int64", "uint8", "uint16", "uint32", "text[1]", "text[3]", "text[9]"))
}

// resize gives a type another size, also within lists, which may be less.
func resize(r *rand.Rand, t *api.Type) {
	switch t.Kind {
	case api.KInt:
		t.Size = pick(r, 8, 16, 32, 64)
	case api.KUint:
		t.Size = pick(r, 8, 16, 32)
	case api.KText:
		t.Size += r.Intn(4)
	case api.KList:
		t.Size += r.Intn(2)
		for i := range t.Elem {
			resize(r, &t.Elem[i])
		}
	}
}

// inner returns the type within all lists of a type.
func inner(t *api.Type) *api.Type {
	for t.Kind == api.KList {
		t = &t.Elem[0]
	}
	return t
}

// references returns types of all the definitions of a schema.
func references(s api.Schema) []api.Type {
	var all []api.Type
	for _, x := range s.Enums {
		all = append(all, enumType(x.Name))
	}
	for _, x := range s.Structs {
		all = append(all, structType(x.Name))
	}
	return all
}

// editField changes a field of a struct, or adds or removes one. Gentle
// changes are such that the versions can be merged.
func editField(r *rand.Rand, s api.Schema, x *api.Struct, gentle bool) {
	number := pick(r, 1, 2, 3, 4, 5, 6, 7, 8, 101, 127)
	i := slices.IndexFunc(x.Fields, func(f api.Field) bool { return f.Number == number })
	if i < 0 {
		f := randomField(r, number, references(s))
		f.Optional = f.Optional || gentle
		if r.Intn(4) == 0 {
			f.Name = fieldName(r.Intn(9))
		}
		x.Fields = append(x.Fields, f)
		slices.SortFunc(x.Fields, func(f, g api.Field) int { return cmp.Compare(f.Number, g.Number) })
		return
	}
	f := &x.Fields[i]
	switch change := r.Intn(8); {
	case change == 0:
		f.Name = pick(r, "a", "b", fieldName(r.Intn(9)))
	case change == 1 && !gentle:
		f.Optional = !f.Optional
	case change == 2 && !gentle:
		f.Type = randomType(r, references(s))
	case change == 3 && (f.Optional || !gentle):
		x.Fields = slices.Delete(x.Fields, i, i+1)
	default:
		resize(r, &f.Type)
	}
}

// editEnum changes the names of an enumeration.
func editEnum(r *rand.Rand, x *api.Enum, gentle bool) {
	number := pick(r, 0, 1, 2, 3, 4, 5, 6, 100, 127)
	names := define(api.Schema{Enums: []api.Enum{*x}}, x.Name).names
	_, ok := names[number]
	switch {
	case ok && number > 0 && r.Intn(2) == 0:
		delete(names, number)
	case !gentle && r.Intn(3) == 0:
		names[number] = enumName(r.Intn(9))
	default:
		names[number] = enumName(number)
	}
	*x = enumOf(x.Name, names, nil)
}

// edit changes something of a schema, which need not be valid any more.
func edit(r *rand.Rand, s *api.Schema, gentle bool) {
	name := string(rune('A' + r.Intn(7)))
	d := define(*s, name)
	switch change := r.Intn(12); {
	case change == 0:
		r.Shuffle(len(s.Structs), func(i, k int) { s.Structs[i], s.Structs[k] = s.Structs[k], s.Structs[i] })
	case change == 1 && (!gentle || !d.isStruct && !d.isEnum):
		s.Enums = slices.DeleteFunc(s.Enums, func(x api.Enum) bool { return x.Name == name })
		s.Structs = slices.DeleteFunc(s.Structs, func(x api.Struct) bool { return x.Name == name })
		if r.Intn(3) == 0 {
			s.Enums = append(s.Enums, randomEnum(r, name))
		} else if r.Intn(2) == 0 {
			s.Structs = append(s.Structs, randomStruct(r, name, references(*s)))
		}
	case change < 5 && len(s.Enums) > 0:
		editEnum(r, &s.Enums[r.Intn(len(s.Enums))], gentle)
	case len(s.Structs) > 0:
		editField(r, *s, &s.Structs[r.Intn(len(s.Structs))], gentle)
	}
}

// version returns a valid schema that is another one with some edits.
func version(r *rand.Rand, s api.Schema, edits int, gentle bool) api.Schema {
	for {
		v := cloned(s)
		v.Version = 1 + r.Intn(5)
		for range edits {
			edit(r, &v, gentle)
		}
		// What has become a struct or an enumeration stays in the fields.
		for _, x := range v.Structs {
			for i := range x.Fields {
				if of := inner(&x.Fields[i].Type); of.Name != "" && define(v, of.Name).isEnum {
					of.Kind = api.KEnum
				} else if of.Name != "" {
					of.Kind = api.KStruct
				}
			}
		}
		if schema.Check(v) == api.OK {
			return v
		}
	}
}

// forPairs calls check with pairs of valid schemas.
func forPairs(check func(a, b api.Schema)) {
	r := rand.New(rand.NewSource(1))
	for range 200 {
		s := randomSchema(r)
		check(s, s)
		check(s, randomSchema(r))
		for edits := 1; edits < 12; edits += 2 {
			check(s, version(r, s, edits, true))
			check(version(r, s, edits, true), version(r, s, edits, true))
			check(version(r, s, edits, false), s)
		}
	}
}

// forSomePairs calls check with every so many of these pairs, of all kinds.
func forSomePairs(every int, check func(a, b api.Schema)) {
	count := 0
	forPairs(func(a, b api.Schema) {
		if count++; count%every == 0 {
			check(a, b)
		}
	})
}

// randomValue returns a value of a type, often the zero value.
func randomValue(r *rand.Rand, s api.Schema, t api.Type) api.Value {
	v := api.Value{Kind: t.Kind}
	isZero := r.Intn(4) == 0
	switch {
	case t.Kind == api.KStruct:
		x, _ := schema.Struct(s, t.Name)
		for _, f := range x.Fields {
			if !f.Optional || r.Intn(2) == 0 && !isZero {
				v.F = append(v.F, entry(f.Number, randomValue(r, s, f.Type)))
			}
		}
	case isZero:
	case t.Kind == api.KBool:
		v.N = 1
	case t.Kind == api.KInt:
		power := int64(1) << (t.Size - 1)
		v.N = pick(r, -power, -1, 1, 63, -64, 64, -65, power-1)
	case t.Kind == api.KUint:
		v.N = pick(r, 1, 2, 127, 128, int64(1)<<t.Size-1)
	case t.Kind == api.KEnum:
		x, _ := schema.Enum(s, t.Name)
		v.N = int64(pick(r, x.Numbers...))
	case t.Kind == api.KText:
		v.S = "\x00a\xff b\"cdefghijk"[:min(t.Size, 1+r.Intn(9))]
	case t.Kind == api.KList:
		for range 1 + r.Intn(t.Size) {
			v.L = append(v.L, randomValue(r, s, t.Elem[0]))
		}
	}
	return v
}

// spoiled returns a value of which parts were replaced, so that many are not
// of their types.
func spoiled(r *rand.Rand, v api.Value) api.Value {
	if r.Intn(6) == 0 {
		v = pick(r, number(3), word("a"), items(v), items(v, record()), record(entry(1, v)), record(entry(pick(r, -1, 0, 2, 128), v), entry(3, items(v))), api.Value{})
	}
	l, f := slices.Clone(v.L), slices.Clone(v.F)
	for i := range l {
		l[i] = spoiled(r, l[i])
	}
	for i := range f {
		f[i].Value = spoiled(r, f[i].Value)
		if r.Intn(6) == 0 {
			f[i].Number = pick(r, -1, 0, 1, 2, 3, 4, 5, 128, most)
		}
	}
	v.L, v.F = l, f
	if r.Intn(6) == 0 {
		switch r.Intn(3) {
		case 0:
			v.N, v.S = 5, "spoiled"
		case 1:
			v.L = append(v.L, number(1), record(entry(1, number(1)), entry(9, number(2))))
		case 2:
			v.F = append(v.F, entry(pick(r, 1, 2, 3, 90), items(number(1))))
		}
	}
	return v
}

// text returns the text of a valid schema, to tell schemas apart.
func text(s api.Schema) string { return schematext.Format(s) }
