package valuetext_test

import (
	"fmt"
	"slices"
	"strings"
	"testing"

	"robotics/api"
	"robotics/valuetext"
)

// P10.1

func TestFormatOfEachKind(t *testing.T) {
	for _, x := range samples() {
		exampleFormatted(t, x.of, x.value, x.text)
	}
}

// Each visible byte stands for itself, but for two of them.
func TestFormatOfEachByte(t *testing.T) {
	for b := range 256 {
		s := string([]byte{'a', byte(b), 'z'})
		want := ""
		switch {
		case b == '"' || b == '\\':
			want = `"a\` + s[1:] + `"`
		case 32 <= b && b <= 126:
			want = `"` + s + `"`
		}
		exampleFormatted(t, text(3), word(s), want)
		exampleFormatted(t, structType("S1"), recorded(6, word(s)), map[bool]string{true: "{next = {next = {next = {next = {next = {next = " + want + "}}}}}}"}[want != ""])
	}
	for _, s := range []string{"\x1f", "\x7f", "\x00", "\t", "\n", "\xff", "\u00e4", strings.Repeat("a", 199) + "\x7f"} {
		exampleFormatted(t, text(2000), word(s), "")
		exampleFormatted(t, list(3, text(2000)), items(word("a"), word(s), word("b")), "")
	}
	exampleFormatted(t, text(1), word(" "), `" "`)
	exampleFormatted(t, text(1), word("~"), `"~"`)
}

func TestFormatOfLongStrings(t *testing.T) {
	for _, unit := range []string{" ", "a", "~", `"`, `\`, "#"} {
		for _, length := range []int{199, 200, 201, 300} {
			s, want := strings.Repeat(unit, length), ""
			if length <= 200 {
				want = quoted(s)
			}
			deep := ""
			if want != "" {
				deep = "{next = {next = {next = {next = {next = {next = " + want + "}}}}}}"
			}
			exampleFormatted(t, text(300), word(s), want)
			exampleFormatted(t, structType("S1"), recorded(6, word(s)), deep)
			exampleFormatted(t, list(2, text(300)), items(word(""), word(s)), map[bool]string{true: `["", ` + want + "]"}[want != ""])
			exampleFormatted(t, structType("Free"), record(entry(3, number(0)), entry(4, word(s)), entry(5, truth(0))), map[bool]string{true: "{c = 0, b = " + want + ", a = false}"}[want != ""])
		}
	}
}

// words returns a list with so many strings, and one more.
func words(length, count, last int) api.Value {
	v := items()
	for range count {
		v.L = append(v.L, word(strings.Repeat("a", length)))
	}
	v.L = append(v.L, word(strings.Repeat("a", last)))
	return v
}

// A text of 4000 bytes is one, a longer one is none, wherever it has its last
// bytes.
func TestFormatOfLongValues(t *testing.T) {
	many := list(32, text(2000))
	for last := range 201 {
		v := words(126, 30, last) // 30 times 130 bytes, the last string, and 4 bytes
		want := ""
		if 3900+last+4 <= 4000 {
			want = spelled(example(), many, v)
			if len(want) != 3904+last {
				t.Fatalf("the text has %d bytes", len(want))
			}
		}
		exampleFormatted(t, many, v, want)
	}
	exampleFormatted(t, many, words(126, 30, 96), spelled(example(), many, words(126, 30, 96)))
	exampleFormatted(t, many, words(126, 30, 97), "")
}

// The additional backslashes count, too.
func TestFormatOfLongValuesWithBackslashes(t *testing.T) {
	many := list(32, text(2000))
	v := words(125, 30, 95) // 30 times 129 bytes, 95, and 4: 31 bytes are left
	v.L[7].S = `"` + strings.Repeat("a", 154)
	if got := valuetext.Format(example(), many, v); len(got) != 4000 || got != spelled(example(), many, v) {
		t.Errorf("%d bytes: %q", len(got), got)
	}
	v.L[7].S += `"`
	exampleFormatted(t, many, v, "")
	v.L[7].S = `"\` + strings.Repeat("a", 153)
	exampleFormatted(t, many, v, "")
}

// table returns so many values in rows of 32.
func table(v api.Value, count int) api.Value {
	rows := items()
	for row := range slices.Chunk(slices.Repeat([]api.Value{v}, count), 32) {
		rows.L = append(rows.L, items(slices.Clone(row)...))
	}
	return rows
}

// Also where the text becomes too long with a mark, a number or a name.
func TestFormatOfLongTables(t *testing.T) {
	for _, x := range []struct {
		of    api.Type
		value api.Value
	}{
		{boolean(), truth(1)}, {boolean(), truth(0)}, {integer(64), number(-1)}, {integer(64), number(100)}, {integer(64), number(least)},
		{enumType("Word"), choice(6)}, {enumType("Word"), choice(127)}, {text(9), word("")}, {structType("Empty"), record()}, {structType("Free"), record(entry(5, truth(1)))},
	} {
		whole := list(32, list(32, x.of))
		one := len(spelled(example(), x.of, x.value)) + 2
		longest := 0
		for count := 3600 / one; count <= 4200/one; count++ {
			v := table(x.value, count)
			text := spelled(example(), whole, v)
			if len(text) > 4000 {
				exampleFormatted(t, whole, v, "")
				continue
			}
			longest = len(text)
			exampleFormatted(t, whole, v, text)
		}
		if longest < 4000-one-4 {
			t.Errorf("the longest text of %+v has %d bytes", x.of, longest)
		}
	}
}

// Each byte up to the last one of the longest text may be that of a number.
func TestFormatOfLongNumbers(t *testing.T) {
	whole := list(32, list(32, integer(64)))
	for digits := range 19 {
		v := table(number(1000), 656) // 20 rows of 192 bytes, one of 96, 42 between and around them
		for i := range 2 {
			v.L[i].L[i].N = 1000000000
		}
		v.L[9].L[9].N = 1
		for range digits {
			v.L[9].L[9].N *= 10
		}
		exampleFormatted(t, whole, v, format(example(), whole, v))
		if got := len(spelled(example(), whole, v)); got != 3987+digits {
			t.Errorf("the text has %d bytes", got)
		}
	}
}

// A value has a text only if value.Check accepts it.
func TestFormatOfValuesThatAreNotAccepted(t *testing.T) {
	for _, x := range []struct {
		of    api.Type
		value api.Value
	}{
		{boolean(), truth(2)}, {boolean(), truth(-1)}, {boolean(), number(1)}, {boolean(), api.Value{}},
		{integer(8), number(128)}, {integer(8), number(-129)}, {integer(16), number(32768)}, {integer(16), number(-32769)}, {integer(32), number(1 << 31)}, {integer(32), number(-1<<31 - 1)}, {integer(64), natural(1)},
		{unsigned(8), natural(256)}, {unsigned(8), natural(-1)}, {unsigned(16), natural(65536)}, {unsigned(32), natural(1 << 32)}, {unsigned(32), natural(-1)}, {unsigned(8), number(1)},
		{text(3), word("abcd")}, {text(2000), number(0)}, {text(3), api.Value{Kind: api.KText, N: 1}},
		{enumType("Mode"), choice(1)}, {enumType("Mode"), choice(-1)}, {enumType("Mode"), truth(0)}, {enumType("Mode"), choice(3 + 1<<32)},
		{list(2, boolean()), items(truth(0), truth(0), truth(0))}, {list(2, boolean()), items(number(0))}, {list(2, boolean()), record()}, {list(2, boolean()), items(truth(5))},
		{structType("Pose"), record()}, {structType("Pose"), items()}, {structType("Free"), record(entry(1, number(1)))}, {structType("Empty"), record(entry(1, number(1)))},
		{structType("Free"), record(entry(5, truth(0)), entry(3, number(1)))}, {structType("Free"), record(entry(5, truth(0)), entry(5, truth(0)))},
		{structType("Pose"), record(entry(1, number(200)), entry(4, choice(0)), entry(5, items()))},
		{lists(7, boolean()), nested(7, truth(1))}, {lists(7, boolean()), nested(6, items())}, {lists(9, boolean()), nested(9, truth(1))},
		{list(2, structType("S1")), items(recorded(6, word("")))},
		{api.Type{Kind: api.KInt, Size: 8}, api.Value{Kind: api.KInt, N: 1, L: []api.Value{number(1)}}},
	} {
		exampleFormatted(t, x.of, x.value, "")
	}
	for _, x := range notPermitted() {
		for _, v := range []api.Value{{}, {Kind: x.Kind}, {Kind: x.Kind, N: 1}, record(), items()} {
			exampleFormatted(t, x, v, "")
		}
	}
}

func TestFormat(t *testing.T) {
	texts, none := 0, 0
	forValues(func(s api.Schema, x api.Type, v api.Value) {
		want := format(s, x, v)
		formatted(t, s, x, v, want)
		if want == "" {
			none++
		} else {
			texts++
		}
	})
	if texts < 5000 || none < 2000 {
		t.Errorf("%d values have a text, %d have none", texts, none)
	}
}

// P10.2

func TestParseOfEachKind(t *testing.T) {
	for _, x := range samples() {
		accepted(t, x.of, x.text, x.value)
		accepted(t, x.of, " \t\n"+x.text+" # remark", x.value)
	}
}

// The examples of the chapter.
func TestParseExamples(t *testing.T) {
	accepted(t, structType("Pose"), poseText, pose())
	refused(t, structType("Pose"), "{x = 200, mode = run, l = []}", api.ErrRange, 0)
	refused(t, structType("Pose"), "{mode = run, x = 1}", api.ErrFormat, 13)
	refused(t, structType("Pose"), "{x = 1}", api.ErrType, 0)
	refused(t, structType("Pose"), "{x = 1, mode = stop, l = []}", api.ErrFormat, 15)
}

// The type is examined before the text, whatever errors that has.
func TestParseOfTypesThatAreNotPermitted(t *testing.T) {
	for _, x := range notPermitted() {
		for _, s := range []string{"", "0", "true", `""`, "[]", "{}", "idle", "~", "1 ~", "\x00", `"`, "99999999999999999999", strings.Repeat(" ", 4001), strings.Repeat("a", 17)} {
			refused(t, x, s, api.ErrType, 0)
		}
	}
}

func TestParseOfTextsThatAreNotScanned(t *testing.T) {
	for _, x := range samples() {
		refused(t, x.of, "~", api.ErrFormat, 0)
		refused(t, x.of, "\x00"+x.text, api.ErrFormat, 0)
		refused(t, x.of, x.text+" ~", api.ErrFormat, len(x.text)+1)
		refused(t, x.of, x.text+" \xff", api.ErrFormat, len(x.text)+1)
		refused(t, x.of, x.text+` "a`, api.ErrFormat, len(x.text)+3)
		refused(t, x.of, x.text+` "\n"`, api.ErrFormat, len(x.text)+2)
		refused(t, x.of, x.text+" 007", api.ErrFormat, len(x.text)+1)
		refused(t, x.of, x.text+" 9223372036854775808", api.ErrRange, len(x.text)+1)
		refused(t, x.of, x.text+" abcdefghijklmnopq", api.ErrLong, len(x.text)+1)
		refused(t, x.of, x.text+` "`+strings.Repeat("a", 201)+`"`, api.ErrLong, len(x.text)+1)
		refused(t, x.of, x.text+strings.Repeat(" ", 4001-len(x.text)), api.ErrLong, 0)
		accepted(t, x.of, x.text+strings.Repeat(" ", 4000-len(x.text)), x.value)
	}
	refused(t, integer(64), "-9223372036854775809", api.ErrRange, 0)
	refused(t, integer(8), "99999999999999999999", api.ErrRange, 0)
	refused(t, integer(8), "-0", api.ErrFormat, 0)
	refused(t, integer(8), "01", api.ErrFormat, 0)
	refused(t, integer(8), "1a", api.ErrFormat, 1)
	refused(t, integer(8), "+1", api.ErrFormat, 0)
	refused(t, text(300), `"a`+"\x7f"+`"`, api.ErrFormat, 2)
	refused(t, text(300), `"`+strings.Repeat("a", 201)+`"`, api.ErrLong, 0)
	refused(t, list(2, text(300)), `["", "`+strings.Repeat("a", 201)+`"]`, api.ErrLong, 5)
	accepted(t, text(300), `"`+strings.Repeat("a", 200)+`"`, word(strings.Repeat("a", 200)))
}

// The tokens that fit as the only ones of a text, by kinds of types.
func TestSingleTokens(t *testing.T) {
	fits := func(x api.Type, token string) bool {
		switch x.Kind {
		case api.KBool:
			return token == "true" || token == "false"
		case api.KInt, api.KUint:
			return strings.Contains("-0123456789", token[:1])
		case api.KText:
			return token[0] == '"'
		case api.KEnum:
			return slices.Contains([]string{"true", "false", "x", "Word", "abcdefghijklmnop"}, token)
		case api.KList:
			return token == "["
		}
		return token == "{"
	}
	for _, x := range []api.Type{boolean(), integer(64), unsigned(32), text(300), enumType("Word"), list(2, boolean()), structType("Free")} {
		for _, token := range vocabulary() {
			_, e, at := valuetext.Parse(example(), x, "   "+token)
			switch {
			case !fits(x, token):
				refused(t, x, "   "+token, api.ErrFormat, 3)
				if token != "]" {
					refused(t, list(2, x), "[  "+token, api.ErrFormat, 3)
				}
			case x.Kind == api.KList || x.Kind == api.KStruct:
				refused(t, x, "   "+token, api.ErrFormat, 4)
			case e == api.ErrFormat || at != 0:
				t.Errorf("Parse(%+v, %q): %v, %d", x, token, e, at)
			}
		}
		refused(t, x, "", api.ErrFormat, 0)
		refused(t, x, "  # remark", api.ErrFormat, 10)
	}
}

// The offset of the first token that does not fit.
func TestTokensThatDoNotFit(t *testing.T) {
	numbers, words := list(3, integer(8)), list(3, list(3, enumType("Word")))
	for _, x := range []struct {
		of   api.Type
		text string
		at   int
	}{
		{boolean(), "True", 0}, {boolean(), "1", 0}, {boolean(), `"true"`, 0}, {boolean(), "run", 0}, {boolean(), "true true", 5}, {boolean(), "true,", 4}, {boolean(), "[true]", 0},
		{integer(8), "true", 0}, {integer(8), `"1"`, 0}, {integer(8), "1 2", 2}, {integer(8), "1.5", 1}, {integer(8), "[1]", 0}, {unsigned(8), "x", 0}, {unsigned(8), "1;", 1},
		{text(5), "a", 0}, {text(5), "1", 0}, {text(5), `"a" "b"`, 4}, {text(5), `["a"]`, 0}, {text(5), `"a"]`, 3},
		{enumType("Mode"), "3", 0}, {enumType("Mode"), "stop", 0}, {enumType("Mode"), "Idle", 0}, {enumType("Mode"), `"idle"`, 0}, {enumType("Mode"), "true", 0}, {enumType("Mode"), "Mode", 0}, {enumType("Mode"), "idle run", 5}, {enumType("Word"), "idle", 0},

		{numbers, "1", 0}, {numbers, "{}", 0}, {numbers, "]", 0}, {numbers, "(1)", 0}, {numbers, "[", 1}, {numbers, "[ ", 2}, {numbers, "[1", 2}, {numbers, "[1,", 3}, {numbers, "[1 2]", 3}, {numbers, "[1; 2]", 2},
		{numbers, "[,]", 1}, {numbers, "[,1]", 1}, {numbers, "[1,]", 3}, {numbers, "[1,,2]", 3}, {numbers, "[1, 2,]", 6}, {numbers, "[1, true]", 4}, {numbers, `["1"]`, 1}, {numbers, "[x]", 1}, {numbers, "[1}", 2}, {numbers, "[}", 1},
		{numbers, "[1]]", 3}, {numbers, "[1] 2", 4}, {numbers, "[1], [2]", 3}, {numbers, "[] []", 3}, {numbers, "[[1]]", 1}, {numbers, "[1, [2]]", 4}, {numbers, "[x = 1]", 1},
		{words, "[true]", 1}, {words, "[[true], x]", 9}, {words, "[[true, x, run]]", 11}, {words, "[[true], [x, 1]]", 13}, {words, "[[true] [x]]", 8}, {words, "[[true]", 7}, {words, "[[true, x]] x", 12},

		{structType("Empty"), "{", 1}, {structType("Empty"), "}", 0}, {structType("Empty"), "[]", 0}, {structType("Empty"), "{x = 1}", 1}, {structType("Empty"), "{{}}", 1}, {structType("Empty"), "{} {}", 3}, {structType("Empty"), "{,}", 1}, {structType("Empty"), "{]", 1},
		{structType("Pose"), "{,}", 1}, {structType("Pose"), "{, x = 1}", 1}, {structType("Pose"), "{x}", 2}, {structType("Pose"), "{x 1}", 3}, {structType("Pose"), "{x: 1}", 2}, {structType("Pose"), "{x = }", 5}, {structType("Pose"), "{x = ", 5}, {structType("Pose"), "{x =", 4}, {structType("Pose"), "{x", 2},
		{structType("Pose"), "{x = 1", 6}, {structType("Pose"), "{x = 1,", 7}, {structType("Pose"), "{x = 1,}", 7}, {structType("Pose"), "{x = 1]", 6}, {structType("Pose"), "{x = 1 mode = run}", 7}, {structType("Pose"), "{x = 1; mode = run}", 6}, {structType("Pose"), "{x = 1,, mode = run}", 7}, {structType("Pose"), "{x = 1 = 1}", 7},
		{structType("Pose"), "{x = true}", 5}, {structType("Pose"), `{x = "1"}`, 5}, {structType("Pose"), "{x = [1]}", 5}, {structType("Pose"), "{x = 1, name = a}", 15}, {structType("Pose"), "{x = 1, mode = 3}", 15}, {structType("Pose"), "{x = 1, mode = true}", 15}, {structType("Pose"), "{x = 1, mode = x}", 15},
		{structType("Pose"), `{"x" = 1}`, 1}, {structType("Pose"), "{1 = 1}", 1}, {structType("Pose"), "{X = 1}", 1}, {structType("Pose"), "{y = 1}", 1}, {structType("Pose"), "{x = 1, y = 1}", 8}, {structType("Pose"), "{Pose = 1}", 1}, {structType("Pose"), "{true = 1}", 1},
		{structType("Pose"), "{x = 1, x = 1}", 8}, {structType("Pose"), "{x = 1, mode = run, x = 1}", 20}, {structType("Pose"), "{x = 1, mode = run, mode = run}", 20}, {structType("Pose"), `{name = "a", x = 1}`, 13}, {structType("Pose"), "{l = [], mode = run}", 9}, {structType("Pose"), "{x = 1, mode = run, name = 1}", 20}, {structType("Pose"), "{x = 1, l = [], l = []}", 16},
		{structType("Pose"), "{x = 1, mode = run, l = [true, 1]}", 31}, {structType("Pose"), "{x = 1, mode = run, l = [true,]}", 30}, {structType("Pose"), "{x = 1, mode = run, l = [true}", 29}, {structType("Pose"), "{x = 1, mode = run, l = [true, run]}", 31}, {structType("Pose"), poseText + "}", 39}, {structType("Pose"), poseText + " , " + poseText, 40}, {structType("Pose"), poseText + "[", 39}, {structType("Pose"), poseText + "x", 39},

		{structType("Arm"), "{pose = {y = 1}}", 9}, {structType("Arm"), "{pose = x = 1}", 8}, {structType("Arm"), "{pose = {x = 1}, x = 1}", 17}, {structType("Arm"), "{pose = {pose = {}}}", 9}, {structType("Arm"), "{pose = {x = 1, pose = {}}}", 16}, {structType("Arm"), "{pose = {}, poses = [{x = 1}, {mode = x}]}", 38}, {structType("Arm"), "{poses = [{mode = run}, {mode = run, x = 1}]}", 37}, {structType("Arm"), "{empty = {pose = 1}}", 10},
		{structType("Arm"), "{words = [[idle]]}", 11}, {structType("Arm"), "{words = [[]], empty = {}}", 15}, {structType("Arm"), "{poses = {x = 1}}", 9}, {structType("Arm"), "{pose = {x = 1}} }", 17}, {structType("Arm"), "{pose = {x = 1}, poses = [{x = 2}, {x = 3, x = 4}]}", 43}, {structType("Arm"), "{empty = {}, words = [[true], [false, x], [x, true, 0]]}", 52},
	} {
		refused(t, x.of, x.text, api.ErrFormat, x.at)
	}
}

// What fits is examined by value.Check.
func TestValuesThatAreNotAccepted(t *testing.T) {
	for _, x := range []struct {
		of   api.Type
		text string
		e    api.Errno
	}{
		{integer(8), "128", api.ErrRange}, {integer(8), "-129", api.ErrRange}, {integer(16), "32768", api.ErrRange}, {integer(16), "-32769", api.ErrRange}, {integer(32), "2147483648", api.ErrRange}, {integer(32), "-2147483649", api.ErrRange}, {integer(8), " 9223372036854775807", api.ErrRange},
		{unsigned(8), "256", api.ErrRange}, {unsigned(8), "-1", api.ErrRange}, {unsigned(16), "65536", api.ErrRange}, {unsigned(32), "4294967296", api.ErrRange}, {unsigned(32), "-1", api.ErrRange},
		{text(1), `"ab"`, api.ErrLong}, {text(1), `"\"\""`, api.ErrLong}, {text(199), `"` + strings.Repeat("a", 200) + `"`, api.ErrLong},
		{list(2, boolean()), "[true, true, true]", api.ErrLong}, {list(32, boolean()), "[" + strings.Repeat("true,", 32) + "true]", api.ErrLong}, {list(2, list(1, boolean())), "[[], [true, true]]", api.ErrLong}, {list(2, integer(8)), "[1, 128]", api.ErrRange},
		{structType("Pose"), "{}", api.ErrType}, {structType("Pose"), "{x = 1}", api.ErrType}, {structType("Pose"), "{x = 1, mode = run}", api.ErrType}, {structType("Pose"), "{x = 1, l = []}", api.ErrType}, {structType("Pose"), "{mode = run, l = []}", api.ErrType}, {structType("Pose"), `{name = "a"}`, api.ErrType},
		{structType("Pose"), `{x = 1, name = "abcdef", mode = run, l = []}`, api.ErrLong}, {structType("Pose"), "{x = 1, mode = run, l = [true, true, true]}", api.ErrLong}, {structType("Pose"), "{x = -129, mode = run, l = []}", api.ErrRange},
		{structType("Arm"), "{}", api.ErrType}, {structType("Arm"), "{empty = {}}", api.ErrType}, {structType("Arm"), "{pose = {x = 1}}", api.ErrType}, {structType("Arm"), "{pose = " + poseText + ", poses = [" + poseText + ", {x = 1}]}", api.ErrType}, {structType("Arm"), "{pose = " + poseText + ", words = [[], [], []]}", api.ErrLong},
		{lists(7, boolean()), "[[[[[[[]]]]]]]", api.ErrDepth}, {lists(8, boolean()), "[[], [[[[[[[true]]]]]]]]", api.ErrDepth}, {list(2, structType("S1")), "[{next = {next = {next = {next = {next = {}}}}}}]", api.ErrDepth},
	} {
		refused(t, x.of, x.text, x.e, 0)
		refused(t, x.of, "  "+x.text+"\n", x.e, 0)
	}
	accepted(t, list(32, boolean()), "["+strings.Repeat("true,", 31)+"true]", items(slices.Repeat([]api.Value{truth(1)}, 32)...))
	accepted(t, lists(7, boolean()), "[[[[[[]]]]]]", nested(6, items()).L[0])
}

// Of several errors, the first one in the chapter's order is returned.
func TestOrderOfErrors(t *testing.T) {
	// The type is before the scan, that before what does not fit, and that
	// before the value.
	faults := []string{"x = 200", "mode = stop", "l = [] ~"}
	for _, x := range []struct {
		of   api.Type
		text string
		e    api.Errno
		at   int
	}{
		{structType("None"), "{" + strings.Join(faults, ", ") + "}", api.ErrType, 0},
		{structType("Pose"), "{" + strings.Join(faults, ", ") + "}", api.ErrFormat, 30},
		{structType("Pose"), "{" + strings.Join(faults, ", ") + "}" + strings.Repeat(" ", 4000), api.ErrLong, 0},
		{structType("Pose"), "{" + strings.Join(faults[:2], ", ") + "}", api.ErrFormat, 17},
		{structType("Pose"), "{" + faults[0] + "}", api.ErrType, 0},
		{structType("Pose"), "{x = 200, mode = run, l = []}", api.ErrRange, 0},

		// Scan's own errors are from the left to the right.
		{integer(8), "{ 9223372036854775808 ~", api.ErrRange, 2},
		{integer(8), "{ ~ 9223372036854775808", api.ErrFormat, 2},
		{integer(8), "true abcdefghijklmnopq", api.ErrLong, 5},
		{list(1, integer(8)), "[300, 300, true, ~", api.ErrFormat, 17},
		{list(1, integer(8)), "[300, 300, true, false", api.ErrFormat, 11},
		{list(1, integer(8)), "[300, 300] 300", api.ErrFormat, 11},
		{list(1, integer(8)), "[300, 300", api.ErrFormat, 9},

		// Of the tokens that do not fit, the first.
		{structType("Pose"), "{mode = stop, x = true}", api.ErrFormat, 8},
		{structType("Pose"), "{mode = run, x = true, y}", api.ErrFormat, 13},
		{structType("Arm"), "{pose = {y = 1}, pose = 1} }", api.ErrFormat, 9},

		// value.Check: levels, then each value before those within it.
		{lists(7, integer(8)), "[[[[[[[300]]]]]]]", api.ErrDepth, 0},
		{lists(7, integer(8)), "[[], [], [[[[[[]]]]]]]", api.ErrDepth, 0},
		{list(1, integer(8)), "[300, 1]", api.ErrLong, 0},
		{list(2, integer(8)), "[300, 1]", api.ErrRange, 0},
		{structType("Pose"), `{x = 200, name = "abcdef"}`, api.ErrType, 0},
		{structType("Pose"), `{x = 200, name = "abcdef", mode = run, l = []}`, api.ErrRange, 0},
		{structType("Pose"), `{x = 20, name = "abcdef", mode = run, l = [true, true, true]}`, api.ErrLong, 0},
		{structType("Arm"), "{pose = {x = 200, mode = run, l = []}, poses = [{}]}", api.ErrRange, 0},
		{structType("Arm"), "{pose = {x = 100, mode = run, l = []}, poses = [{}]}", api.ErrType, 0},
	} {
		refused(t, x.of, x.text, x.e, x.at)
	}
}

// Names of fields, of enumerations and of booleans do not get in each other's
// way.
func TestSameNames(t *testing.T) {
	free := structType("Free")
	accepted(t, free, "{a = true, true = true}", record(entry(5, truth(1)), entry(6, choice(0))))
	accepted(t, free, "{a = false, true = x}", record(entry(5, truth(0)), entry(6, choice(5))))
	accepted(t, free, "{true = Word}", record(entry(6, choice(6))))
	accepted(t, enumType("Word"), "true", choice(0))
	accepted(t, enumType("Word"), "false", choice(1))
	refused(t, free, "{a = x}", api.ErrFormat, 5)
	refused(t, free, "{true = true, a = true}", api.ErrFormat, 14)
	refused(t, free, "{false = true}", api.ErrFormat, 1)
}

func TestParse(t *testing.T) {
	counts := map[api.Errno]int{}
	forTexts(func(s api.Schema, x api.Type, text string) {
		want, e, at := parse(s, x, text)
		parsed(t, s, x, text, want, e, at)
		counts[e]++
	})
	for _, e := range []api.Errno{api.OK, api.ErrFormat, api.ErrType, api.ErrRange, api.ErrLong} {
		if counts[e] < 100 {
			t.Errorf("only %d texts with %v", counts[e], e)
		}
	}
}

// Texts of the greatest length: that of a value, and one with much else.
func TestLongTexts(t *testing.T) {
	many := list(32, text(2000))
	v := words(126, 30, 96)
	longest := spelled(example(), many, v)
	if len(longest) != 4000 {
		t.Fatalf("the text has %d bytes", len(longest))
	}
	accepted(t, many, longest, v)
	refused(t, many, longest+" ", api.ErrLong, 0)
	refused(t, many, longest[:3999], api.ErrFormat, 3999)
	refused(t, many, longest[:3999]+",", api.ErrFormat, 4000)
	accepted(t, many, "["+strings.Repeat("\n", 3998)+"]", items())
	accepted(t, many, "[#"+strings.Repeat("a", 3996)+"\n]", items())
	refused(t, many, "[#"+strings.Repeat("a", 3998), api.ErrFormat, 4000)
	refused(t, list(32, integer(8)), "["+strings.Repeat("1,", 1999)+"1", api.ErrFormat, 4000)
	refused(t, list(32, integer(8)), "["+strings.Repeat("1,", 1998)+"1]", api.ErrLong, 0)
	refused(t, lists(10000, boolean()), strings.Repeat("[", 4000), api.ErrFormat, 4000)
	refused(t, lists(2000, boolean()), strings.Repeat("[", 2000)+strings.Repeat("]", 2000), api.ErrDepth, 0)
	refused(t, lists(1999, boolean()), strings.Repeat("[", 2000)+strings.Repeat("]", 2000), api.ErrFormat, 1999)
}

// Structs with as many fields, and enumerations with as many names, as there
// can be.
func TestWideDefinitions(t *testing.T) {
	s := api.Schema{Version: 1, Enums: []api.Enum{{Name: "E"}}, Structs: []api.Struct{structure("A")}}
	for i := range 16 {
		s.Enums[0].Names = append(s.Enums[0].Names, fmt.Sprintf("n%d", i))
		s.Enums[0].Numbers = append(s.Enums[0].Numbers, 8*i)
		s.Structs[0].Fields = append(s.Structs[0].Fields, optional(127-15+i, fmt.Sprintf("n%d", i), enumType("E")))
	}
	var all []api.Entry
	var fields []string
	for i := range 16 {
		formatted(t, s, enumType("E"), choice(int64(8*i)), fmt.Sprintf("n%d", i))
		parsed(t, s, enumType("E"), fmt.Sprintf("n%d", i), choice(int64(8*i)), api.OK, 0)
		all = append(all, entry(127-15+i, choice(int64(120-8*i))))
		fields = append(fields, fmt.Sprintf("n%d = n%d", i, 15-i))
		want := "{" + strings.Join(fields, ", ") + "}"
		formatted(t, s, structType("A"), record(all...), want)
		parsed(t, s, structType("A"), want, record(all...), api.OK, 0)
		parsed(t, s, structType("A"), "{"+fields[i]+"}", record(all[i]), api.OK, 0)
	}
	for i := range 16 {
		for k := range i + 1 {
			before := "{" + fields[i] + ", "
			parsed(t, s, structType("A"), before+fields[k]+"}", api.Value{}, api.ErrFormat, len(before))
		}
	}
}
