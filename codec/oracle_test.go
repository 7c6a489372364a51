package codec_test

import (
	"encoding/binary"
	"fmt"
	"math/rand"
	"slices"

	"robotics/api"
	"robotics/schema"
	"robotics/schematext"
	"robotics/value"
)

// The oracle: the chapter's definitions, with the varints of encoding/binary.

// zeros returns the zero values of the types of a schema, each found once.
func zeros(s api.Schema) func(t api.Type) api.Value {
	known := map[string]api.Value{}
	return func(t api.Type) api.Value {
		text := schematext.Type(t)
		if _, ok := known[text]; !ok {
			known[text] = value.Zero(s, t)
		}
		return known[text]
	}
}

// scribe writes the contents of values, with changes.
type scribe struct {
	schema api.Schema
	zero   func(t api.Type) api.Value
	spoil  func(piece string) string                    // changes a varint, a content or a field
	extra  func(x api.Struct, after, before int) string // fields that a struct does not have
	lax    func() bool                                  // whether to write a field that must be omitted
}

// exact returns a scribe that changes nothing.
func exact(s api.Schema) scribe {
	return scribe{
		schema: s,
		zero:   zeros(s),
		spoil:  func(piece string) string { return piece },
		extra:  func(api.Struct, int, int) string { return "" },
		lax:    func() bool { return false },
	}
}

func (w scribe) sized(content string) string {
	return w.spoil(varint(len(content))) + content
}

func (w scribe) content(t api.Type, v api.Value) string {
	content := ""
	switch t.Kind {
	case api.KBool:
		content = string([]byte{byte(v.N)})
	case api.KInt:
		content = string(binary.AppendVarint(nil, v.N))
	case api.KUint, api.KEnum:
		content = string(binary.AppendUvarint(nil, uint64(v.N)))
	case api.KText:
		content = v.S
	case api.KList:
		content = w.spoil(varint(len(v.L)))
		for _, x := range v.L {
			content += w.sized(w.content(t.Elem[0], x))
		}
	case api.KStruct:
		content = w.structure(t, v)
	}
	return w.spoil(content)
}

func (w scribe) structure(t api.Type, v api.Value) string {
	x, _ := schema.Struct(w.schema, t.Name)
	content, before := "", 0
	for _, f := range v.F {
		content += w.extra(x, before, f.Number)
		before = f.Number
		g, _ := schema.FieldOf(x, f.Number)
		if g.Optional || !value.Equal(f.Value, w.zero(g.Type)) || w.lax() {
			content += w.spoil(w.spoil(varint(f.Number)) + w.sized(w.content(g.Type, f.Value)))
		}
	}
	return content + w.extra(x, before, 1<<31)
}

// encode is the oracle's Encode, for a valid schema that has the struct.
func encode(s api.Schema, name string, v api.Value) (string, api.Errno) {
	if e := value.Check(s, structType(name), v); e != api.OK {
		return "", e
	}
	b := exact(s).content(structType(name), v)
	if len(b) > 2000 {
		return "", api.ErrLong
	}
	return b, api.OK
}

// attempt returns the error with which a reading stops, by a panic.
func attempt(read func()) (e api.Errno) {
	defer func() {
		if x := recover(); x != nil {
			e = x.(api.Errno)
		}
	}()
	read()
	return api.OK
}

func require(condition bool, e api.Errno) {
	if !condition {
		panic(e)
	}
}

// cutVarint cuts a varint off some bytes.
func cutVarint(b *string) uint64 {
	n, size := binary.Uvarint([]byte(*b)[:min(len(*b), 10)])
	// With ten bytes, the tenth one is too great in any case.
	require(size > 0 || len(*b) >= 10, api.ErrShort)
	require(size > 0, api.ErrFormat)
	require(size == 1 || (*b)[size-1] != 0, api.ErrFormat)
	*b = (*b)[size:]
	return n
}

// cut cuts a length and so many bytes off some bytes.
func cut(b *string) string {
	length := cutVarint(b)
	require(length <= uint64(len(*b)), api.ErrShort)
	content := (*b)[:length]
	*b = (*b)[length:]
	return content
}

// sequence reads a sequence of fields.
func sequence(b string, use func(number int, content string)) {
	before := uint64(0)
	for b != "" {
		number := cutVarint(&b)
		require(number < 1<<31, api.ErrRange)
		require(number > before, api.ErrFormat)
		use(int(number), cut(&b))
		before = number
	}
}

// interpreter reads contents, and counts the fields that it skips.
type interpreter struct {
	exact   scribe
	skipped int
}

func (o *interpreter) content(t api.Type, b string) api.Value {
	v := api.Value{Kind: t.Kind}
	switch t.Kind {
	case api.KBool:
		require(b != "", api.ErrShort)
		require(b[0] < 2, api.ErrFormat)
		require(len(b) == 1, api.ErrFormat)
		v.N = int64(b[0])
	case api.KInt, api.KUint, api.KEnum:
		n := cutVarint(&b)
		require(b == "", api.ErrFormat)
		v.N = o.number(t, n)
	case api.KText:
		require(len(b) <= t.Size, api.ErrLong)
		v.S = b
	case api.KList:
		count := cutVarint(&b)
		require(count <= uint64(t.Size), api.ErrLong)
		for range count {
			v.L = append(v.L, o.content(t.Elem[0], cut(&b)))
		}
		require(b == "", api.ErrFormat)
	case api.KStruct:
		v.F = o.fields(t, b)
	}
	return v
}

// number returns the number of a type with this varint.
func (o *interpreter) number(t api.Type, varint uint64) int64 {
	n := int64(varint)
	switch t.Kind {
	case api.KInt:
		n, _ = binary.Varint(binary.AppendUvarint(nil, varint))
		require(t.Size == 64 || -1<<(t.Size-1) <= n && n < 1<<(t.Size-1), api.ErrRange)
	case api.KUint:
		require(varint < 1<<t.Size, api.ErrRange)
	case api.KEnum:
		x, _ := schema.Enum(o.exact.schema, t.Name)
		require(varint < 128 && slices.Contains(x.Numbers, int(varint)), api.ErrRange)
	}
	return n
}

func (o *interpreter) fields(t api.Type, b string) []api.Entry {
	x, _ := schema.Struct(o.exact.schema, t.Name)
	read := map[int]api.Value{}
	sequence(b, func(number int, content string) {
		f, ok := schema.FieldOf(x, number)
		if !ok {
			o.skipped++
			return
		}
		read[number] = o.content(f.Type, content)
		zero := o.exact.content(f.Type, o.exact.zero(f.Type))
		require(f.Optional || content != zero, api.ErrFormat)
	})
	var all []api.Entry
	for _, f := range x.Fields {
		if v, ok := read[f.Number]; ok {
			all = append(all, entry(f.Number, v))
		} else if !f.Optional {
			all = append(all, entry(f.Number, o.exact.zero(f.Type)))
		}
	}
	return all
}

// decode is the oracle's Decode, for a valid schema that has the struct. It
// also returns the number of fields that were skipped.
func decode(s api.Schema, name, b string) (v api.Value, skipped int, e api.Errno) {
	o := interpreter{exact: exact(s)}
	e = attempt(func() {
		require(len(b) <= 2000, api.ErrLong)
		v = o.content(structType(name), b)
	})
	return v, o.skipped, e
}

// fields is the oracle's Fields, together with the contents.
func fields(b string) (numbers []int, contents []string, e api.Errno) {
	e = attempt(func() {
		require(len(b) <= 2000, api.ErrLong)
		sequence(b, func(number int, content string) {
			numbers, contents = append(numbers, number), append(contents, content)
		})
	})
	if e != api.OK {
		return nil, nil, e
	}
	return numbers, contents, e
}

// Random schemas, values and encodings.

func pick[T any](r *rand.Rand, of ...T) T {
	return of[r.Intn(len(of))]
}

// randomSchema returns a schema with a struct S0 and others, each of which has
// only those behind it in its fields.
func randomSchema(r *rand.Rand) api.Schema {
	for {
		text := "version 1;" + definitions
		structs := []string{"Empty", "Point", "Arm"}
		for i := r.Intn(5); i >= 0; i-- {
			text += fmt.Sprintf(" struct S%d {", i)
			for number := 1 + r.Intn(2); number < 128; number += pick(r, 1, 1, 2, 10, 100) {
				text += fmt.Sprintf(" %d f%d: %s%s;", number, number, randomType(r, structs), pick(r, "", "?"))
				if r.Intn(5) == 0 {
					break
				}
			}
			text += " }"
			structs = append(structs, fmt.Sprintf("S%d", i))
		}
		// Some have too many fields, or structs that are too deep.
		if s, e, _ := schematext.Parse(text); e == api.OK {
			return s
		}
	}
}

func randomType(r *rand.Rand, structs []string) string {
	switch r.Intn(4) {
	case 0:
		return pick(r, structs...)
	case 1:
		return fmt.Sprintf("list[%d] of %s", 1+r.Intn(4), randomType(r, structs))
	}
	return pick(r, "bool", "int8", "int16", "int32", "int64", "uint8", "uint16", "uint32", "text[1]", "text[3]", "text[300]", "text[2000]", "text[2000]", "Mode", "Far")
}

// randomValue returns a value of a type, often the zero value.
func randomValue(r *rand.Rand, s api.Schema, t api.Type) api.Value {
	v := api.Value{Kind: t.Kind}
	isZero := r.Intn(3) == 0
	switch {
	case t.Kind == api.KStruct:
		x, _ := schema.Struct(s, t.Name)
		for _, f := range x.Fields {
			if !f.Optional || r.Intn(2) == 0 && !isZero {
				v.F = append(v.F, entry(f.Number, randomValue(r, s, f.Type)))
			}
		}
	case isZero:
	case t.Kind == api.KBool:
		v.N = 1
	case t.Kind == api.KInt:
		power := int64(1) << (t.Size - 1)
		v.N = pick(r, -power, -1, 1, 63, -64, 64, -65, power-1)
	case t.Kind == api.KUint:
		v.N = pick(r, 1, 2, 127, 128, int64(1)<<t.Size-1)
	case t.Kind == api.KEnum:
		x, _ := schema.Enum(s, t.Name)
		v.N = int64(pick(r, x.Numbers...))
	case t.Kind == api.KText:
		v.S = randomBytes(r, min(t.Size, pick(r, 1, 2, 3, 10, 127, 128, 1500, 2000)))
	case t.Kind == api.KList:
		for range 1 + r.Intn(t.Size) {
			v.L = append(v.L, randomValue(r, s, t.Elem[0]))
		}
	}
	return v
}

// randomBytes returns so many bytes, most of which mean something.
func randomBytes(r *rand.Rand, length int) string {
	b := make([]byte, length)
	for i := range b {
		b[i] = pick(r, 0, 1, 2, 3, 4, 5, 9, 'a', 126, 127, 128, 129, 254, 255, byte(r.Intn(256)))
	}
	return string(b)
}

// changed returns a piece of an encoding with something else instead.
func changed(r *rand.Rand, piece string) string {
	switch r.Intn(9) {
	case 0:
		return ""
	case 1:
		return piece[:r.Intn(len(piece)+1)]
	case 2:
		return piece + randomBytes(r, 1)
	case 3:
		return piece + piece
	case 4:
		return randomBytes(r, len(piece))
	case 5:
		return randomBytes(r, r.Intn(4))
	case 6:
		return bytes(pick(r, power63, largest, beyond, endless, "80 80 80 80 08", "80 80 80 80 10"))
	case 7:
		if piece != "" { // not the shortest varint
			return piece[:len(piece)-1] + string([]byte{piece[len(piece)-1] | 128, 0})
		}
	case 8:
		if piece != "" {
			i := r.Intn(len(piece))
			return piece[:i] + string([]byte{piece[i] + pick[byte](r, 1, 255)}) + piece[i+1:]
		}
	}
	return piece
}

// extraFields returns fields that a struct does not have, with any content.
func extraFields(r *rand.Rand, x api.Struct, after, before int) string {
	b := ""
	for after < before-1 && r.Intn(2) == 0 {
		number := min(before-1, after+pick(r, 1, 1, 2, 100, 1<<31))
		if r.Intn(2) == 0 {
			number = before - 1
		}
		if _, ok := schema.FieldOf(x, number); !ok {
			b += fieldOf(number, randomBytes(r, r.Intn(5)))
		}
		after = number
	}
	return b
}

// forValues calls check with random values of the structs of random schemas,
// also with ones of which a part was replaced.
func forValues(check func(s api.Schema, name string, v api.Value)) {
	r := rand.New(rand.NewSource(1))
	for range 1500 {
		s := randomSchema(r)
		for _, x := range s.Structs {
			v := randomValue(r, s, structType(x.Name))
			check(s, x.Name, v)
			if len(v.F) > 0 {
				f := pick(r, v.F...)
				f.Value = pick(r, f.Value, number(pick[int64](r, 0, 1, 128, most)), word("abcd"), items(f.Value), record())
				check(s, x.Name, value.With(v, f.Number, f.Value))
				check(s, x.Name, value.Without(v, f.Number))
			}
		}
	}
}

// forBytes calls check with encodings, and with ones that have faults and
// unknown fields.
func forBytes(check func(s api.Schema, name, b string)) {
	forSamples(func(s api.Schema, _ api.Value, b string) { check(s, "T", b) })
	forFaults(func(s api.Schema, b string, _ api.Errno) { check(s, "T", b) })
	r := rand.New(rand.NewSource(2))
	for range 800 {
		s := randomSchema(r)
		for _, x := range s.Structs {
			t := structType(x.Name)
			w := exact(s)
			check(s, x.Name, w.content(t, randomValue(r, s, t)))
			w.extra = func(x api.Struct, after, before int) string { return extraFields(r, x, after, before) }
			check(s, x.Name, w.content(t, randomValue(r, s, t)))
			check(s, x.Name, changed(r, w.content(t, randomValue(r, s, t))))
			for _, rate := range []int{5, 20, 80, 320} {
				w.lax = func() bool { return r.Intn(rate) == 0 }
				w.spoil = func(piece string) string {
					if r.Intn(rate) == 0 {
						return changed(r, piece)
					}
					return piece
				}
				check(s, x.Name, w.content(t, randomValue(r, s, t)))
			}
			check(s, x.Name, randomBytes(r, r.Intn(20)))
		}
	}
}
