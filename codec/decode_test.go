package codec_test

import (
	"maps"
	"math/rand"
	"slices"
	"strings"
	"testing"

	"robotics/api"
	"robotics/codec"
	"robotics/schema"
	"robotics/value"
)

// P11.2

func TestDecodeExamples(t *testing.T) {
	s := example()
	for _, x := range []struct{ b, value string }{
		{"01 01 03  02 01 01  03 04 02 01 61 00", `{x = -2, on = true, tags = ["a", ""]}`},
		{"", `{x = 0, on = false, tags = []}`},
		{"04 01 00", `{x = 0, on = false, tags = [], m = idle}`},
		{"09 01 ff", `{x = 0, on = false, tags = []}`},
	} {
		decoded(t, s, "P", bytes(x.b), structOf(s, "P", x.value))
	}
	for b, e := range map[string]api.Errno{
		"01 01 00":    api.ErrFormat,
		"02 01 02":    api.ErrFormat,
		"04 01 02":    api.ErrRange,
		"01 02 03":    api.ErrShort,
		"01 02 03 00": api.ErrFormat,
	} {
		refused(t, s, "P", bytes(b), e)
	}
}

func TestDecodeOfEachKind(t *testing.T) {
	forSamples(func(s api.Schema, v api.Value, b string) { decoded(t, s, "T", b, v) })
}

// Fields that are not optional and were not read have their zero values.
func TestDecodeOfNothing(t *testing.T) {
	for _, s := range []api.Schema{example(), holding("Arm"), holding("text[3]"), holding("list[2] of Far")} {
		for _, x := range s.Structs {
			decoded(t, s, x.Name, "", value.Zero(s, structType(x.Name)))
			decoded(t, s, x.Name, fieldOf(1000, "\xff"), value.Zero(s, structType(x.Name)))
		}
	}
	s := schemaOf(definitions + "struct T { 3 a: bool; 5 b: Far?; 7 c: text[2]; 9 d: Point; 11 e: Point?; }")
	decoded(t, s, "T", "", structOf(s, "T", `{a = false, c = "", d = {x = 0}}`))
	decoded(t, s, "T", bytes("03 01 01"), structOf(s, "T", `{a = true, c = "", d = {x = 0}}`))
	decoded(t, s, "T", bytes("05 01 00"), structOf(s, "T", `{a = false, b = near, c = "", d = {x = 0}}`))
	decoded(t, s, "T", bytes("07 01 61"), structOf(s, "T", `{a = false, c = "a", d = {x = 0}}`))
	decoded(t, s, "T", bytes("09 03 04 01 00"), structOf(s, "T", `{a = false, c = "", d = {x = 0, y = 0}}`))
	decoded(t, s, "T", bytes("0b 00"), structOf(s, "T", `{a = false, c = "", d = {x = 0}, e = {x = 0}}`))
	decoded(t, s, "T", bytes("05 01 7f 0b 03 02 01 01"), structOf(s, "T", `{a = false, b = far, c = "", d = {x = 0}, e = {x = -1}}`))
}

func TestDecodeWithSchemasThatAreNotValid(t *testing.T) {
	for _, s := range strangeSchemas() {
		e := schema.Check(s)
		if e == api.OK {
			continue
		}
		for _, name := range []string{"P", "Point", "None", "", "Mode"} {
			for _, b := range []string{"", bytes("01 01 03"), bytes("00"), strings.Repeat("a", 2001)} {
				refused(t, s, name, b, e)
			}
		}
	}
}

func TestDecodeOfUnknownStructs(t *testing.T) {
	for _, name := range unknownNames() {
		for _, b := range []string{"", bytes("01 01 03"), bytes("00"), strings.Repeat("a", 2001)} {
			refused(t, example(), name, b, api.ErrNone)
			refused(t, api.Schema{Version: 1}, name, b, api.ErrNone)
		}
	}
}

func TestDecodeOfLongStrings(t *testing.T) {
	s := example()
	for count := 1; count <= 1997; count++ {
		if b := fieldOf(1, letters(count).S); len(b) <= 2000 {
			decoded(t, s, "Long", b, value.With(value.Zero(s, structType("Long")), 1, letters(count)))
		}
	}
	for _, b := range []string{
		fieldOf(1, letters(1998).S),
		fieldOf(1, letters(1994).S) + fieldOf(2, "\x01") + "\x03",
		fieldOf(100, letters(1998).S),
		strings.Repeat("\x00", 2001),
		strings.Repeat("\x80", 2001),
		bytes("02 01 02") + strings.Repeat("a", 1998),
		strings.Repeat("a", 1<<20),
	} {
		refused(t, s, "Long", b, api.ErrLong)
		refused(t, s, "Empty", b, api.ErrLong)
	}
	refused(t, s, "Long", strings.Repeat("\x00", 2000), api.ErrFormat)
	refused(t, s, "Long", fieldOf(1, letters(1994).S)+fieldOf(2, "\x02"), api.ErrFormat)
	refused(t, s, "Long", fieldOf(1, letters(1995).S)+"\x02\x00", api.ErrShort)
	decoded(t, s, "Empty", fieldOf(100, letters(1997).S), record())
}

// Each error of a content, in each place.
func TestErrorsOfContents(t *testing.T) {
	forFaults(func(s api.Schema, b string, e api.Errno) {
		refused(t, s, "T", b, e)
		refused(t, s, "T", b+fieldOf(100, ""), e)
		refused(t, s, "T", b+"\x00", e)
		refused(t, s, "T", b+"\x64", e)
	})
}

// The errors of a sequence, with fields before it that do not matter.
func TestErrorsOfSequences(t *testing.T) {
	s := example()
	for _, x := range brokenSequences() {
		b := bytes(x.content)
		refused(t, s, "Point", b, x.e)
		refused(t, s, "Empty", b, x.e)
		refused(t, s, "Point", bytes("01 01 ff 02 01 02")+b, x.e)
		for depth := range 5 {
			for range depth + 1 {
				b = fieldOf(1, b)
			}
			refused(t, s, "S"+string(rune('5'-depth)), b, x.e)
			b = bytes(x.content)
		}
	}
	decoded(t, s, "Point", bytes("03 00 ff ff ff ff 07 00"), structOf(s, "Point", "{x = 0}"))
	decoded(t, s, "Point", bytes("02 01 02 ff ff ff ff 07 02 80 00"), structOf(s, "Point", "{x = 1}"))
}

// A field that is not optional must be omitted if it has the zero value.
func TestZeroValuesThatAreNotOmitted(t *testing.T) {
	for _, x := range samples() {
		s := holding(x.of)
		b, zero := bytes(x.content), value.Zero(s, held(s))
		if !value.Equal(valueOf(s, held(s), x.value), zero) {
			continue
		}
		refused(t, s, "T", fieldOf(1, b), api.ErrFormat)
		refused(t, s, "T", fieldOf(1, b)+fieldOf(2, b), api.ErrFormat)
		refused(t, s, "T", fieldOf(1, b)+"\x02", api.ErrFormat)
		decoded(t, s, "T", fieldOf(2, b), value.With(value.Zero(s, structType("T")), 2, zero))
		refused(t, s, "T", fieldOf(3, "\x00"), api.ErrFormat)
		refused(t, s, "T", fieldOf(4, ""), api.ErrFormat)
		refused(t, s, "T", fieldOf(5, "\x00"), api.ErrFormat)
		decoded(t, s, "T", fieldOf(6, "\x00"), value.With(value.Zero(s, structType("T")), 6, items()))
		// Within elements, too, but an element itself is never omitted.
		outer := schemaOf(definitions + "struct In { 1 a: " + x.of + "; } struct T { 1 l: list[2] of In; 2 m: list[2] of In?; }")
		refused(t, outer, "T", fieldOf(1, listed(fieldOf(1, b))), api.ErrFormat)
		refused(t, outer, "T", fieldOf(2, listed("", fieldOf(1, b))), api.ErrFormat)
		none := value.Zero(outer, structType("In"))
		decoded(t, outer, "T", fieldOf(1, listed("")), value.With(value.Zero(outer, structType("T")), 1, items(none)))
		decoded(t, outer, "T", fieldOf(2, listed("", "")), value.With(value.Zero(outer, structType("T")), 2, items(none, none)))
	}
}

// A struct is omitted if it has the empty content, not if all that it has is
// skipped.
func TestStructsOfSkippedFields(t *testing.T) {
	s := example()
	v := structOf(s, "Arm", "{p = {x = 0}, l = []}")
	for _, b := range []string{"01 02 01 00", "01 02 03 00", "01 03 7f 01 ff", "01 09 01 01 02 ff ff ff ff 07 00"} {
		decoded(t, s, "Arm", bytes(b), v)
	}
	refused(t, s, "Arm", bytes("01 00"), api.ErrFormat)
	refused(t, s, "Arm", bytes("01 01 03"), api.ErrShort)
	for _, name := range []string{"S5", "S4", "S3", "S2", "S1"} {
		decoded(t, s, name, bytes("01 02 05 00"), value.Zero(s, structType(name)))
		refused(t, s, name, bytes("01 00"), api.ErrFormat)
		refused(t, s, name, bytes("01 05 05 00 05 00"), api.ErrShort)
		refused(t, s, name, bytes("01 04 05 00 05 00"), api.ErrFormat)
	}
}

// Of several errors, the one further to the left is returned.
func TestOrderOfErrorsOfDecode(t *testing.T) {
	s := schemaOf(definitions + "struct T { 1 a: bool; 2 b: int8; 3 c: Far?; 4 d: text[1]; 5 e: list[2] of bool; 6 f: Point; 7 g: list[2] of Point?; }")
	single := map[int]fault{
		1: {"", "02", api.ErrFormat},
		2: {"", "80 02", api.ErrRange},
		3: {"", "80", api.ErrShort},
		4: {"", "61 62", api.ErrLong},
		5: {"", "03", api.ErrLong},
		6: {"", "02 01", api.ErrShort},
		7: {"", "01 03 02 01 00", api.ErrFormat},
	}
	for i, x := range single {
		for k, y := range single {
			if i < k {
				refused(t, s, "T", fieldOf(i, bytes(x.content))+fieldOf(k, bytes(y.content)), x.e)
			}
		}
		for _, z := range brokenSequences() {
			refused(t, s, "T", fieldOf(i, bytes(x.content))+bytes(z.content), x.e)
			refused(t, s, "T", fieldOf(8, "\xff")+bytes("03 00")+fieldOf(i, bytes(x.content)), api.ErrFormat)
		}
	}
	for _, x := range []struct {
		b string
		e api.Errno
	}{
		// The number is before the length, that before the content, and that
		// before the field is found to be one that must be omitted.
		{"00 80", api.ErrFormat},
		{"80 80 80 80 08", api.ErrRange},
		{"03 01 00 01 80", api.ErrFormat},
		{"03 01 00 01 7f 02", api.ErrFormat},
		{"01 02 02", api.ErrShort},
		{"02 05 80 02", api.ErrShort},
		{"01 01 00 01 01 02", api.ErrFormat},
		{"02 01 00 03 01 80", api.ErrFormat},
		{"02 01 00 03 01 01", api.ErrFormat},
		{"05 01 00 06 02 02 01", api.ErrFormat},

		// Within a content.
		{"01 02 02 00", api.ErrFormat},
		{"02 03 80 02 00", api.ErrFormat},
		{"02 03 80 00 80", api.ErrFormat},
		{"05 03 03 01 02", api.ErrLong},
		{"05 04 02 01 02 80", api.ErrFormat},
		{"05 04 02 00 01 02", api.ErrShort},
		{"05 05 01 01 02 00 00", api.ErrFormat},
		{"05 05 02 7f 80 00 00", api.ErrShort},
		{"05 03 80 00 03", api.ErrFormat},
		{"06 04 04 80 00 02", api.ErrFormat},
		{"06 07 02 02 80 02 02 01 00", api.ErrRange},
		{"06 06 02 01 00 02 02 80", api.ErrFormat},
		{"06 06 04 01 80 02 01 02", api.ErrShort},
		{"06 06 04 01 00 02 01 80", api.ErrFormat},
		{"07 0a 02 04 02 02 80 02 03 02 01 00", api.ErrRange},
		{"07 09 02 04 02 02 80 02 02 02 01", api.ErrRange},
		{"07 0a 02 03 02 01 00 04 02 02 80 02", api.ErrFormat},
		{"07 0a 02 03 02 01 00 04 02 02 80", api.ErrShort},
	} {
		refused(t, s, "T", bytes(x.b), x.e)
	}
	invalid := example()
	invalid.Version = 0
	long := strings.Repeat("\x00", 2001)
	refused(t, invalid, "None", long, api.ErrRange)
	refused(t, invalid, "P", long, api.ErrRange)
	refused(t, example(), "None", long, api.ErrNone)
	refused(t, example(), "P", long, api.ErrLong)
	refused(t, example(), "P", long[:2000], api.ErrFormat)
}

// Fields that a struct does not have are skipped, whatever their contents are,
// in each place of the encoding and of the structs within it.
func TestUnknownFields(t *testing.T) {
	s := example()
	v := structOf(s, "Arm", "{p = {x = 1, y = 0}, l = [{x = 2}, {x = 0}], o = {x = -3}}")
	contents := []string{"", "\x00", "\x01", "\xff", bytes(beyond), bytes("01 01 03"), bytes("00 00"), strings.Repeat("\x80", 200)}
	for _, content := range contents {
		for _, within := range []int{1, 3, 5, 126, 127, 128, 1<<31 - 1} {
			point := func(v api.Value) string { return withExtra(s, "Point", v, within, content) }
			for _, number := range []int{2, 4, 8, 10, 1<<31 - 1} {
				all := map[int]string{
					1: point(v.F[0].Value),
					3: listed(point(v.F[1].Value.L[0]), point(v.F[1].Value.L[1])),
					9: point(v.F[2].Value),
				}
				all[number] = content
				b := ""
				for _, k := range slices.Sorted(maps.Keys(all)) {
					b += fieldOf(k, all[k])
				}
				decoded(t, s, "Arm", b, v)
			}
		}
	}
}

// withExtra returns the encoding of a struct with one field more.
func withExtra(s api.Schema, name string, v api.Value, number int, content string) string {
	b, _ := encode(s, name, v)
	numbers, contents, _ := fields(b)
	at, _ := slices.BinarySearch(numbers, number)
	numbers, contents = slices.Insert(numbers, at, number), slices.Insert(contents, at, content)
	b = ""
	for i, n := range numbers {
		b += fieldOf(n, contents[i])
	}
	return b
}

// All strings of a few bytes which mean something for a struct.
func TestDecodeOfShortStrings(t *testing.T) {
	s := schemaOf("struct In { 1 a: bool; } struct T { 1 a: bool; 2 b: list[1] of bool?; 3 c: In; 5 d: text[1]?; }")
	for length := range 6 {
		forStrings("\x00\x01\x02\x03\x04\x05\x80\xff", length, func(b string) { agreed(t, s, "T", b) })
	}
	numbers := schemaOf("enum Far { near = 0, far = 127 } struct T { 1 a: int8; 2 b: uint8?; 3 c: Far?; }")
	for length := range 3 {
		forStrings(allBytes(), length, func(b string) {
			for number := range 3 {
				agreed(t, numbers, "T", fieldOf(1+number, b))
			}
		})
	}
}

// forStrings calls use with all strings of so many of these bytes.
func forStrings(alphabet string, length int, use func(b string)) {
	if length == 0 {
		use("")
		return
	}
	for i := range len(alphabet) {
		forStrings(alphabet, length-1, func(b string) { use(alphabet[i:i+1] + b) })
	}
}

func allBytes() string {
	b := make([]byte, 256)
	for i := range b {
		b[i] = byte(i)
	}
	return string(b)
}

// agreed checks that Decode returns what the oracle does.
func agreed(t *testing.T, s api.Schema, name, b string) api.Errno {
	t.Helper()
	want, _, e := decode(s, name, b)
	if e != api.OK {
		refused(t, s, name, b, e)
	} else {
		decoded(t, s, name, b, want)
	}
	return e
}

func TestDecode(t *testing.T) {
	counts := map[api.Errno]int{}
	forBytes(func(s api.Schema, name, b string) { counts[agreed(t, s, name, b)]++ })
	for _, e := range []api.Errno{api.OK, api.ErrShort, api.ErrFormat, api.ErrRange, api.ErrLong} {
		if counts[e] < 200 {
			t.Errorf("the error %v only %d times: %v", e, counts[e], counts)
		}
	}
}

// Each string that an encoding begins with, and each change of one byte.
func TestDecodeOfDamagedEncodings(t *testing.T) {
	r := rand.New(rand.NewSource(4))
	forSamples(func(s api.Schema, v api.Value, b string) {
		for i := range len(b) {
			agreed(t, s, "T", b[:i])
			if len(b) < 40 || r.Intn(20) == 0 {
				for _, other := range []byte{0, 1, 2, b[i] + 1, b[i] - 1, b[i] ^ 128, 255} {
					agreed(t, s, "T", b[:i]+string([]byte{other})+b[i+1:])
				}
			}
		}
	})
}

// The chapter's order of the entries is that of the numbers.
func TestEntriesAscend(t *testing.T) {
	forSamples(func(s api.Schema, _ api.Value, b string) {
		v, _ := codec.Decode(s, "T", b)
		if !slices.IsSortedFunc(v.F, func(f, g api.Entry) int { return f.Number - g.Number }) {
			t.Errorf("Decode(%x) = %+v", b, v)
		}
	})
}
