package codec_test

import (
	"encoding/binary"
	"encoding/hex"
	"strings"
	"testing"

	"robotics/api"
	"robotics/codec"
	"robotics/schema"
	"robotics/schematext"
	"robotics/value"
	"robotics/valuetext"
)

const (
	least = -1 << 63
	most  = 1<<63 - 1
)

// Schemas and values, which are written as texts where they have one.

// definitions are those that the types of most tests use.
const definitions = `
	enum Mode { idle = 0, run = 1 }
	enum Far { near = 0, some = 5, far = 127 }
	struct Empty { }
	struct Point { 2 x: int8; 4 y: int8?; }
	struct Arm { 1 p: Point; 3 l: list[2] of Point; 9 o: Point?; }
`

// example returns a schema with the definitions, the struct P of the chapter
// and others.
func example() api.Schema {
	return schemaOf(definitions + `
		struct P { 1 x: int32; 2 on: bool; 3 tags: list[4] of text[9]; 4 m: Mode?; }
		struct Long { 1 a: text[2000]; 2 b: bool; 3 c: list[32] of text[2000]; 4 d: Arm; 5 e: list[32] of list[32] of list[32] of Empty; 16 f: Inner; 126 g: bool?; }
		struct Inner { 1 a: text[2000]; 127 b: list[32] of text[2000]?; }
		struct S1 { 1 n: S2; } struct S2 { 1 n: S3; } struct S3 { 1 n: S4; } struct S4 { 1 n: S5; } struct S5 { 1 n: S6; } struct S6 { 1 n: int8; 2 o: int8?; }
	`)
}

// schemaOf returns the schema with these definitions.
func schemaOf(text string) api.Schema {
	s, e, at := schematext.Parse("version 7;" + text)
	if e != api.OK {
		panic(text + ": " + e.Error() + " before " + text[max(0, at-len("version 7;")):])
	}
	return s
}

// valueOf returns the value of a type with this text.
func valueOf(s api.Schema, t api.Type, text string) api.Value {
	v, e, _ := valuetext.Parse(s, t, text)
	if e != api.OK {
		panic(text + ": " + e.Error())
	}
	return v
}

func structType(name string) api.Type { return api.Type{Kind: api.KStruct, Name: name} }

func structOf(s api.Schema, name, text string) api.Value { return valueOf(s, structType(name), text) }

func number(n int64) api.Value { return api.Value{Kind: api.KInt, N: n} }

func word(s string) api.Value { return api.Value{Kind: api.KText, S: s} }

func items(all ...api.Value) api.Value { return api.Value{Kind: api.KList, L: all} }

func record(all ...api.Entry) api.Value { return api.Value{Kind: api.KStruct, F: all} }

func entry(number int, v api.Value) api.Entry { return api.Entry{Number: number, Value: v} }

// Bytes.

// bytes returns the bytes of a text such as "01 ff".
func bytes(text string) string {
	b, err := hex.DecodeString(strings.ReplaceAll(text, " ", ""))
	if err != nil {
		panic(text + ": " + err.Error())
	}
	return string(b)
}

func varint(n int) string { return string(binary.AppendUvarint(nil, uint64(n))) }

func sized(content string) string { return varint(len(content)) + content }

// fieldOf returns a field of a sequence of fields.
func fieldOf(number int, content string) string { return varint(number) + sized(content) }

// listed returns the content of a list.
func listed(contents ...string) string {
	b := varint(len(contents))
	for _, content := range contents {
		b += sized(content)
	}
	return b
}

// Samples and faults: contents of types, in each place where a type may be.

// holding returns a schema with a struct T that has a type in several places.
// T is the last struct.
func holding(of string) api.Schema {
	return schemaOf(definitions + strings.ReplaceAll(`
		struct In { 1 a: X?; }
		struct T { 1 a: X; 2 b: X?; 3 c: list[3] of X; 4 d: In; 5 e: list[2] of In; 6 f: list[2] of list[2] of X?; }
	`, "X", of))
}

// held returns the type that a schema of holding has in several places.
func held(s api.Schema) api.Type {
	t, _ := schema.Struct(s, "T")
	return t.Fields[0].Type
}

// place is a field of T with a value and its content. The content, but not the
// value, may be one that no value has.
type place struct {
	number  int
	value   api.Value
	content string
}

// places returns a value of the type of a schema of holding in several places.
func places(s api.Schema, x api.Value, content string) []place {
	zero, none := value.Zero(s, held(s)), "\x00"
	if zero.Kind == api.KText || zero.Kind == api.KStruct {
		none = ""
	}
	in := record(entry(1, x))
	return []place{
		{1, x, content},
		{2, x, content},
		{3, items(x), listed(content)},
		{3, items(zero, x, zero), listed(none, content, none)},
		{4, in, fieldOf(1, content)},
		{5, items(in), listed(fieldOf(1, content))},
		{5, items(record(), in), listed("", fieldOf(1, content))},
		{6, items(items(x)), listed(listed(content))},
		{6, items(items(), items(zero, x)), listed("\x00", listed(none, content))},
	}
}

// sample is a type, a value of it and the content of the value.
type sample struct{ of, value, content string }

// samples returns values of all kinds.
func samples() []sample {
	return []sample{
		{"bool", "false", "00"},
		{"bool", "true", "01"},
		{"int8", "0", "00"},
		{"int8", "-1", "01"},
		{"int8", "1", "02"},
		{"int8", "-2", "03"},
		{"int8", "63", "7e"},
		{"int8", "-64", "7f"},
		{"int8", "64", "80 01"},
		{"int8", "-128", "ff 01"},
		{"int8", "127", "fe 01"},
		{"int16", "0", "00"},
		{"int16", "-32768", "ff ff 03"},
		{"int16", "32767", "fe ff 03"},
		{"int32", "0", "00"},
		{"int32", "-2147483648", "ff ff ff ff 0f"},
		{"int32", "2147483647", "fe ff ff ff 0f"},
		{"int64", "0", "00"},
		{"int64", "-9223372036854775808", "ff ff ff ff ff ff ff ff ff 01"},
		{"int64", "9223372036854775807", "fe ff ff ff ff ff ff ff ff 01"},
		{"uint8", "0", "00"},
		{"uint8", "1", "01"},
		{"uint8", "127", "7f"},
		{"uint8", "128", "80 01"},
		{"uint8", "255", "ff 01"},
		{"uint16", "0", "00"},
		{"uint16", "300", "ac 02"},
		{"uint16", "65535", "ff ff 03"},
		{"uint32", "0", "00"},
		{"uint32", "4294967295", "ff ff ff ff 0f"},
		{"Mode", "idle", "00"},
		{"Mode", "run", "01"},
		{"Far", "near", "00"},
		{"Far", "some", "05"},
		{"Far", "far", "7f"},
		{"text[1]", `""`, ""},
		{"text[1]", `" "`, "20"},
		{"text[3]", `""`, ""},
		{"text[3]", `"a"`, "61"},
		{"text[3]", `"a\"\\"`, "61 22 5c"},
		{"text[2000]", `""`, ""},
		{"text[2000]", `"` + strings.Repeat("a", 200) + `"`, strings.Repeat("61", 200)},
		{"list[1] of bool", "[]", "00"},
		{"list[1] of bool", "[false]", "01 01 00"},
		{"list[2] of int8", "[-1, 64]", "02 01 01 02 80 01"},
		{"list[2] of uint8", "[0, 0]", "02 01 00 01 00"},
		{"list[3] of Far", "[far, near]", "02 01 7f 01 00"},
		{"list[3] of text[9]", "[]", "00"},
		{"list[3] of text[9]", `["", "", ""]`, "03 00 00 00"},
		{"list[3] of text[9]", `["", "ab", ""]`, "03 00 02 61 62 00"},
		{"list[32] of bool", "[" + strings.Repeat("true,", 31) + "false]", "20" + strings.Repeat("01 01", 31) + "01 00"},
		{"list[2] of list[2] of bool", "[]", "00"},
		{"list[2] of list[2] of bool", "[[], []]", "02 01 00 01 00"},
		{"list[2] of list[2] of bool", "[[], [true]]", "02 01 00 03 01 01 01"},
		{"list[3] of Empty", "[{}, {}]", "02 00 00"},
		{"list[2] of Point", "[{x = 0}, {x = -1, y = 0}]", "02 00 06 02 01 01 04 01 00"},
		{"Empty", "{}", ""},
		{"Point", "{x = 0}", ""},
		{"Point", "{x = 0, y = 0}", "04 01 00"},
		{"Point", "{x = 1}", "02 01 02"},
		{"Point", "{x = 64, y = -1}", "02 02 80 01 04 01 01"},
		{"Arm", "{p = {x = 0}, l = []}", ""},
		{"Arm", "{p = {x = 1}, l = []}", "01 03 02 01 02"},
		{"Arm", "{p = {x = 0, y = 0}, l = []}", "01 03 04 01 00"},
		{"Arm", "{p = {x = 0}, l = [{x = 0}]}", "03 02 01 00"},
		{"Arm", "{p = {x = 0}, l = [], o = {x = 0}}", "09 00"},
		{"Arm", "{p = {x = 1}, l = [{x = 2}, {x = 0}], o = {x = 3, y = 4}}", "01 03 02 01 02  03 06 02 03 02 01 04 00  09 06 02 01 06 04 01 08"},
	}
}

// forSamples calls check with each sample in each place: with the value of T
// and its encoding.
func forSamples(check func(s api.Schema, v api.Value, b string)) {
	for _, x := range samples() {
		s := holding(x.of)
		v, content := valueOf(s, held(s), x.value), bytes(x.content)
		zero := value.Zero(s, structType("T"))
		for _, p := range places(s, v, content) {
			b := fieldOf(p.number, p.content)
			if p.number == 1 && value.Equal(v, value.Zero(s, held(s))) {
				b = ""
			}
			check(s, value.With(zero, p.number, p.value), b)
		}
	}
}

// fault is a content that no value of a type has, with its error.
type fault struct {
	of, content string
	e           api.Errno
}

// The varints of 2^63 and 2^64 - 1, and what goes on behind that of a number
// below 2^63.
const (
	power63 = "80 80 80 80 80 80 80 80 80 01"
	largest = "ff ff ff ff ff ff ff ff ff 01"
	beyond  = "ff ff ff ff ff ff ff ff ff 02"
	endless = "80 80 80 80 80 80 80 80 80 80"
)

// brokenVarints returns what is no varint, for errors of reading one.
func brokenVarints() map[string]api.Errno {
	return map[string]api.Errno{
		"":           api.ErrShort,
		"80":         api.ErrShort,
		"ff ff":      api.ErrShort,
		endless[:26]: api.ErrShort, // nine bytes
		"80 00":      api.ErrFormat,
		"81 00":      api.ErrFormat,
		"ff 80 00":   api.ErrFormat,
		beyond:       api.ErrFormat,
		endless:      api.ErrFormat,
	}
}

// faults returns contents with each of the chapter's errors.
func faults() []fault {
	all := []fault{
		{"bool", "", api.ErrShort},
		{"bool", "02", api.ErrFormat},
		{"bool", "80", api.ErrFormat},
		{"bool", "ff", api.ErrFormat},
		{"bool", "81 00", api.ErrFormat},
		{"bool", "00 00", api.ErrFormat},
		{"bool", "01 00", api.ErrFormat},
		{"bool", "01 01", api.ErrFormat},
		{"bool", "02 00", api.ErrFormat},

		{"int8", "80 02", api.ErrRange},
		{"int8", "81 02", api.ErrRange},
		{"int8", "80 80 04", api.ErrRange},
		{"int8", "80 80 80 80 10", api.ErrRange},
		{"int16", "80 80 04", api.ErrRange},
		{"int16", "81 80 04", api.ErrRange},
		{"int32", "80 80 80 80 10", api.ErrRange},
		{"int32", "81 80 80 80 10", api.ErrRange},
		{"int32", largest, api.ErrRange},
		{"uint8", "80 02", api.ErrRange},
		{"uint8", "80 80 80 80 10", api.ErrRange},
		{"uint16", "80 80 04", api.ErrRange},
		{"uint32", "80 80 80 80 10", api.ErrRange},
		{"uint32", "80 80 80 80 80 80 80 80 40", api.ErrRange}, // 2^62
		{"uint32", power63, api.ErrRange},
		{"uint32", largest, api.ErrRange},
		{"Mode", "02", api.ErrRange},
		{"Mode", "7f", api.ErrRange},
		{"Mode", "80 02", api.ErrRange},
		{"Mode", "81 80 80 80 10", api.ErrRange}, // 2^32 + 1
		{"Mode", power63, api.ErrRange},
		{"Mode", largest, api.ErrRange},
		{"Far", "01", api.ErrRange},
		{"Far", "04", api.ErrRange},
		{"Far", "06", api.ErrRange},
		{"Far", "7e", api.ErrRange},
		{"Far", "80 01", api.ErrRange},

		{"text[1]", "61 62", api.ErrLong},
		{"text[3]", "61 62 63 64", api.ErrLong},
		{"text[3]", strings.Repeat("00", 300), api.ErrLong},

		{"list[2] of int8", "03", api.ErrLong},
		{"list[2] of int8", "03 01 00 01 00 01 00", api.ErrLong},
		{"list[2] of int8", power63, api.ErrLong},
		{"list[2] of int8", largest, api.ErrLong},
		{"list[32] of bool", "21", api.ErrLong},
		{"list[2] of int8", "01", api.ErrShort},
		{"list[2] of int8", "01 01", api.ErrShort},
		{"list[2] of int8", "01 02 00", api.ErrShort},
		{"list[2] of int8", "02 01 00", api.ErrShort},
		{"list[2] of int8", "02 01 00 01", api.ErrShort},
		{"list[2] of int8", "01 00", api.ErrShort},
		{"list[2] of int8", "01 01 80", api.ErrShort},
		{"list[2] of int8", "01 02 80 00", api.ErrFormat},
		{"list[2] of int8", "01 02 00 00", api.ErrFormat},
		{"list[2] of int8", "01 02 80 02", api.ErrRange},
		{"list[2] of int8", "02 01 00 02 80 02", api.ErrRange},
		{"list[2] of int8", "00 00", api.ErrFormat},
		{"list[2] of int8", "00 01 00", api.ErrFormat},
		{"list[2] of int8", "01 01 00 00", api.ErrFormat},
		{"list[2] of int8", "01 01 00 80", api.ErrFormat},
		{"list[2] of int8", "02 01 00 01 00 01 00", api.ErrFormat},
		{"list[2] of bool", "01 01 02", api.ErrFormat},
		{"list[2] of bool", "01 00", api.ErrShort},
		{"list[2] of text[3]", "01 04 61 62 63 64", api.ErrLong},
		{"list[2] of text[3]", "01 03 61 62", api.ErrShort},
		{"list[2] of Mode", "02 01 00 01 02", api.ErrRange},
		{"list[2] of list[1] of bool", "01 00", api.ErrShort},
		{"list[2] of list[1] of bool", "01 01 02", api.ErrLong},
		{"list[2] of list[1] of bool", "02 01 00 03 01 01 02", api.ErrFormat},
		{"list[2] of Point", "01 01 02", api.ErrShort},
		{"list[2] of Point", "01 03 02 01 00", api.ErrFormat},
		{"list[2] of Point", "02 00 04 04 02 80 02", api.ErrRange},
		{"list[2] of Empty", "02 00", api.ErrShort},

		{"Arm", "01 00", api.ErrFormat},
		{"Arm", "01 03 02 01 00", api.ErrFormat},
		{"Arm", "01 02 02 01", api.ErrShort},
		{"Arm", "01 04 02 02 80 02", api.ErrRange},
		{"Arm", "03 01 00", api.ErrFormat},
		{"Arm", "03 05 01 03 02 01 00", api.ErrFormat},
		{"Arm", "03 01 03", api.ErrLong},
		{"Arm", "09 04 04 02 81 02", api.ErrRange},
	}
	for content, e := range brokenVarints() {
		for _, of := range []string{"int8", "int16", "int32", "int64", "uint8", "uint16", "uint32", "Mode", "Far", "list[2] of int8"} {
			all = append(all, fault{of, content, e})
		}
		all = append(all, fault{"list[2] of text[3]", "01" + content, e}, fault{"list[2] of int8", "02 01 00" + content, e})
	}
	for _, of := range []string{"int8", "int64", "uint8", "uint32", "Mode", "Far"} {
		for _, content := range []string{"00 00", "01 00", "01 80", "00" + endless, "80 02 00", largest + "00"} {
			all = append(all, fault{of, content, api.ErrFormat})
		}
	}
	for _, length := range []string{"01", "02 00", "7f", "80 80 80 80 08", power63, largest} {
		all = append(all, fault{"list[2] of text[9]", "01" + length, api.ErrShort})
	}
	for _, x := range brokenSequences() {
		all = append(all, fault{"Point", x.content, x.e}, fault{"Empty", x.content, x.e})
	}
	return all
}

// brokenSequences returns what is no sequence of fields. Where the error is not
// that of a number, the fields are none that the definitions have, and follow 2.
func brokenSequences() []fault {
	all := []fault{
		{"", "00", api.ErrFormat},
		{"", "00 00", api.ErrFormat},
		{"", "00 01 00", api.ErrFormat},
		{"", "00 80", api.ErrFormat},
		{"", "03 00 03 00", api.ErrFormat},
		{"", "03 00 01 00", api.ErrFormat},
		{"", "03 00 00 00", api.ErrFormat},
		{"", "03 00 03", api.ErrFormat},
		{"", "03 00 01 05", api.ErrFormat},
		{"", "03 00 07 01 ff 05 00", api.ErrFormat},
		{"", "ff ff ff ff 07 00 ff ff ff ff 07 00", api.ErrFormat},
		{"", "80 80 80 80 08 00", api.ErrRange},
		{"", "80 80 80 80 08", api.ErrRange},
		{"", "81 80 80 80 08 00", api.ErrRange},
		{"", "81 80 80 80 10 00", api.ErrRange},
		{"", "03 00 80 80 80 80 08 00", api.ErrRange},
		{"", power63 + "00", api.ErrRange},
		{"", largest + "00", api.ErrRange},
		{"", "ff ff ff ff 07", api.ErrShort},
		{"", "ff ff ff ff 07 01", api.ErrShort},
	}
	for broken, e := range brokenVarints() {
		if broken != "" {
			all = append(all, fault{"", broken, e}, fault{"", "03 00" + broken, e})
		}
		all = append(all, fault{"", "03" + broken, e}, fault{"", "03 00 ff ff ff ff 07" + broken, e})
	}
	for _, length := range []string{"01", "02 00", "7f", "d1 0f", "80 80 80 80 08", power63, largest} {
		all = append(all, fault{"", "03" + length, api.ErrShort}, fault{"", "03 01 00 05" + length, api.ErrShort})
	}
	return all
}

// forFaults calls check with an encoding of T that has each fault in each
// place.
func forFaults(check func(s api.Schema, b string, e api.Errno)) {
	for _, x := range faults() {
		s := holding(x.of)
		for _, p := range places(s, api.Value{}, bytes(x.content)) {
			check(s, fieldOf(p.number, p.content), x.e)
		}
	}
}

// Checks of results.

// encoded checks that Encode returns the encoding.
func encoded(t *testing.T, s api.Schema, name string, v api.Value, want string) {
	t.Helper()
	if got, e := codec.Encode(s, name, v); got != want || e != api.OK {
		t.Errorf("Encode(%q, %+v) = %.100x, %v, want %.100x; of %s", name, v, got, e, want, schematext.Format(s))
	}
	if got := codec.Size(s, name, v); got != len(want) {
		t.Errorf("Size(%q, %+v) = %d, want %d; of %s", name, v, got, len(want), schematext.Format(s))
	}
}

// notEncoded checks that Encode returns the error and nothing else.
func notEncoded(t *testing.T, s api.Schema, name string, v api.Value, want api.Errno) {
	t.Helper()
	if got, e := codec.Encode(s, name, v); got != "" || e != want {
		t.Errorf("Encode(%q, %+v) = %.100x, %v, want %v; of %s", name, v, got, e, want, schematext.Format(s))
	}
	if got := codec.Size(s, name, v); got != 0 {
		t.Errorf("Size(%q, %+v) = %d, want 0; of %s", name, v, got, schematext.Format(s))
	}
}

// decoded checks that Decode returns the value.
func decoded(t *testing.T, s api.Schema, name, b string, want api.Value) {
	t.Helper()
	if got, e := codec.Decode(s, name, b); !value.Equal(got, want) || e != api.OK {
		t.Errorf("Decode(%q, %.100x) = %+v, %v, want %+v; of %s", name, b, got, e, want, schematext.Format(s))
	}
}

// refused checks that Decode returns the error and nothing else.
func refused(t *testing.T, s api.Schema, name, b string, want api.Errno) {
	t.Helper()
	if got, e := codec.Decode(s, name, b); !value.Equal(got, api.Value{}) || e != want {
		t.Errorf("Decode(%q, %.100x) = %+v, %v, want %v; of %s", name, b, got, e, want, schematext.Format(s))
	}
}
