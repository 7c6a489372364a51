package lexer_test

import (
	"slices"
	"strings"
	"testing"

	"robotics/api"
	"robotics/lexer"
)

// P6.1

func TestScanExamples(t *testing.T) {
	accepted(t, "a = -5", name("a", 0), mark("=", 2), number(-5, 4), end(6))
	refused(t, "12a", api.ErrFormat, 2)
	refused(t, "007", api.ErrFormat, 0)
	accepted(t, `node "a b" ; # remark`, name("node", 0), text("a b", 5), mark(";", 11), end(21))
	accepted(t, "version 1;\nstruct Pose {\n\t1 x: int32;\n\t2 name: text[8];\n}\n",
		name("version", 0), number(1, 8), mark(";", 9),
		name("struct", 11), name("Pose", 18), mark("{", 23),
		number(1, 26), name("x", 28), mark(":", 29), name("int32", 31), mark(";", 36),
		number(2, 39), name("name", 41), mark(":", 45), name("text", 47), mark("[", 51), number(8, 52), mark("]", 53), mark(";", 54),
		mark("}", 56), end(58))
}

// Whether a text is accepted, and as what, is as the oracle scans texts.
func TestScan(t *testing.T) {
	scanned := 0
	forTexts(func(s string) {
		want, e, offset := scan(s)
		if got, err, at := lexer.Scan(s); !slices.Equal(got, want) || err != e || at != offset {
			t.Errorf("Scan(%q) = %v, %v, %d, want %v, %v, %d", s, got, err, at, want, e, offset)
		}
		if len(want) > 5 {
			scanned++
		}
	})
	if scanned < 5000 {
		t.Errorf("only %d texts had more than five tokens", scanned)
	}
}

func TestWhiteSpaceAndRemarks(t *testing.T) {
	for _, s := range []string{
		"", " ", "\t", "\n", " \t\n \t\n", "#", "##", "# remark", "# remark\n", "\n# remark", "  # one\n\t# two", "#\n#\n#", "#\n\n#\n",
		"# \"string", "# 12a 007 $ \\ -", "#\x00\x01\r\x7f\x80\xff\u00e4", "# " + strings.Repeat("x", 300), strings.Repeat(" ", 4000), strings.Repeat("#", 4000), strings.Repeat("#\n", 2000),
	} {
		accepted(t, s, end(len(s)))
	}
	accepted(t, "a#b\nc", name("a", 0), name("c", 4), end(5))
	accepted(t, "1#2\n\n\t3 ", number(1, 0), number(3, 6), end(8))
	accepted(t, `"#"#"`, text("#", 0), end(5))
	accepted(t, ";# ; #\n;", mark(";", 0), mark(";", 7), end(8))
	accepted(t, "# a\nb", name("b", 4), end(5))
	accepted(t, "# a \\\nb", name("b", 6), end(7))
	refused(t, "#\n$", api.ErrFormat, 2)
	refused(t, "# a\r\n\r", api.ErrFormat, 5)
}

func TestLongTexts(t *testing.T) {
	full := strings.Repeat(" ", 3999)
	accepted(t, full+"a", name("a", 3999), end(4000))
	accepted(t, "a"+full, name("a", 0), end(4000))
	refused(t, full+"$", api.ErrFormat, 3999)
	var want []api.Token
	for i := range 4000 {
		want = append(want, mark(";", i))
	}
	accepted(t, strings.Repeat(";", 4000), append(want, end(4000))...)
	for _, s := range []string{
		full + " a", full + "  ", strings.Repeat(";", 4001), strings.Repeat("$", 4001), strings.Repeat("a", 4001), strings.Repeat("\xff", 4001),
		"$" + full + " ", "007" + full, "#" + full + " ", "\"" + full + " ", strings.Repeat("x ", 1<<20),
	} {
		refused(t, s, api.ErrLong, 0)
	}
}

// Each byte begins a token, separates tokens, or is an error.
func TestSingleBytes(t *testing.T) {
	for i := range 256 {
		s := string([]byte{byte(i)})
		switch {
		case strings.Contains(" \t\n#", s):
			accepted(t, s, end(1))
		case strings.Contains(letters, s):
			accepted(t, s, name(s, 0), end(1))
		case strings.Contains(digits, s):
			accepted(t, s, number(int64(i-'0'), 0), end(1))
		case strings.Contains(marks, s):
			accepted(t, s, mark(s, 0), end(1))
		case s == `"`:
			refused(t, s, api.ErrFormat, 1)
		default:
			refused(t, s, api.ErrFormat, 0)
			refused(t, "; "+s, api.ErrFormat, 2)
		}
	}
}

func TestNames(t *testing.T) {
	for _, s := range []string{"a", "z", "A", "Z", "a1", "a_", "a_1", "a__", "Pose", "x9Y_z", "abcdefghijklmnop", "A_23456789abcde_"} {
		accepted(t, s, name(s, 0), end(len(s)))
		accepted(t, " "+s+"\n", name(s, 1), end(len(s)+2))
	}
	refused(t, "abcdefghijklmnopq", api.ErrLong, 0)
	refused(t, "  abcdefghijklmnopq ", api.ErrLong, 2)
	refused(t, "a "+strings.Repeat("b", 100), api.ErrLong, 2)
	refused(t, "A_23456789abcde_7", api.ErrLong, 0)
	refused(t, "_", api.ErrFormat, 0)
	refused(t, "_a", api.ErrFormat, 0)
	refused(t, "a-", api.ErrFormat, 1)
	refused(t, "a-1", api.ErrFormat, 1)
	refused(t, " ab--", api.ErrFormat, 3)
	refused(t, "abcdefghijklmnop-", api.ErrFormat, 16)
	refused(t, "abcdefghijklmnopq-", api.ErrLong, 0)
	refused(t, "a\u00e4", api.ErrFormat, 1)
	accepted(t, "a -1", name("a", 0), number(-1, 2), end(4))
	accepted(t, "a#-1", name("a", 0), end(4))
}

func TestNumbers(t *testing.T) {
	for s, n := range map[string]int64{
		"0": 0, "1": 1, "9": 9, "10": 10, "100": 100, "1234567890": 1234567890, "-1": -1, "-10": -10, "-9": -9,
		"9223372036854775807": most, "9223372036854775806": most - 1, "-9223372036854775808": least, "-9223372036854775807": least + 1,
		"4294967296": 1 << 32, "-4294967296": -1 << 32, "1000000000000000000": 1000000000000000000,
	} {
		accepted(t, s, number(n, 0), end(len(s)))
		accepted(t, "\t"+s+";", number(n, 1), mark(";", len(s)+1), end(len(s)+2))
	}
}

func TestMalformedNumbers(t *testing.T) {
	for _, s := range []string{
		"-", "--", "--1", "- 1", "-a", "-_", "-;", "-\n", "-\"\"", "-0", "-00", "-01", "-007", "00", "01", "007", "0123",
		"-0a", "00a", "00_", "007-", "-a1", "000000000000000000000000000000", "00000000000000000000000000000001", "-09223372036854775809", "09223372036854775808",
	} {
		refused(t, s, api.ErrFormat, 0)
		refused(t, "x = "+s, api.ErrFormat, 4)
	}
}

func TestNumbersOutOfRange(t *testing.T) {
	for _, s := range []string{
		"9223372036854775808", "-9223372036854775809", "9999999999999999999", "10000000000000000000", "-10000000000000000000",
		"18446744073709551615", "18446744073709551616", "18446744073709551617", "-18446744073709551617", "340282366920938463463374607431768211457",
		"1" + strings.Repeat("0", 3000), "-" + strings.Repeat("9", 3000),
	} {
		refused(t, s, api.ErrRange, 0)
		refused(t, "x = "+s+" $", api.ErrRange, 4)
		for _, after := range []string{"a", "_", "-", "-1", "\x80"} {
			refused(t, s+after, api.ErrRange, 0)
		}
	}
}

func TestContents(t *testing.T) {
	for _, x := range []struct{ s, content string }{
		{`""`, ""},
		{`" "`, " "},
		{`"~"`, "~"},
		{`" ~ ~"`, " ~ ~"},
		{`"a b"`, "a b"},
		{`"a # b; 007"`, "a # b; 007"},
		{`"\""`, `"`},
		{`"\\"`, `\`},
		{`"\\\""`, `\"`},
		{`"\"\\"`, `"\`},
		{`"\\\\"`, `\\`},
		{`"\\n"`, `\n`},
		{`"a\"b\\c"`, `a"b\c`},
		{`"` + strings.Repeat("x", 199) + `"`, strings.Repeat("x", 199)},
		{`"` + strings.Repeat("x", 200) + `"`, strings.Repeat("x", 200)},
		{`"` + strings.Repeat(`\"`, 200) + `"`, strings.Repeat(`"`, 200)},
		{`"` + strings.Repeat(`\\`, 200) + `"`, strings.Repeat(`\`, 200)},
		{`"` + strings.Repeat(`\"\\`, 100) + `"`, strings.Repeat(`"\`, 100)},
	} {
		accepted(t, x.s, text(x.content, 0), end(len(x.s)))
		accepted(t, " "+x.s+" ", text(x.content, 1), end(len(x.s)+2))
	}
	for _, c := range printable() {
		if c != '"' && c != '\\' {
			accepted(t, `"`+string(c)+`"`, text(string(c), 0), end(3))
		}
	}
}

func TestLongContents(t *testing.T) {
	for _, content := range []string{
		strings.Repeat("x", 201), strings.Repeat(" ", 202), strings.Repeat(`\"`, 201), strings.Repeat(`\\`, 201), strings.Repeat(`\\`, 200) + "x", strings.Repeat("x", 3000),
	} {
		refused(t, `"`+content+`"`, api.ErrLong, 0)
		refused(t, `a "`+content+`" $`, api.ErrLong, 2)
		// What is not permitted, or not closed, is so before the content is too long.
		refused(t, `"`+content, api.ErrFormat, len(content)+1)
		refused(t, `"`+content+"\n\"", api.ErrFormat, len(content)+1)
		refused(t, `"`+content+`\`, api.ErrFormat, len(content)+1)
	}
}

func TestMalformedStrings(t *testing.T) {
	for _, x := range []struct {
		s  string
		at int
	}{
		{`"`, 1},
		{`"ab`, 3},
		{`"ab `, 4},
		{`"a" "b`, 6},
		{`"\"`, 3},
		{`"\\`, 3},
		{`"\\\"`, 5},
		{`"ab# ;`, 6},
		{`"\`, 1},
		{`"ab\`, 3},
		{`"\\\`, 3},
		{`"a\n"`, 2},
		{`"\n`, 1},
		{`"\ "`, 1},
		{`"\'"`, 1},
		{"\"\\\n\"", 1},
		{"\"\\\xff\"", 1},
		{`"\a\`, 1},
		{`"\\\a"`, 3},
		{"\"\n", 1},
		{"\"a\nb\"", 2},
		{"\"a\tb\"", 2},
		{"\"\x7f\\\"", 1},
		{"\"\u00e4\"", 1},
		{"\"a\ufffd\"", 2},
		{"  \"\x00", 3},
	} {
		refused(t, x.s, api.ErrFormat, x.at)
	}
}

// Each byte in a string, and each byte behind a backslash in one.
func TestBytesInStrings(t *testing.T) {
	for i := range 256 {
		c := string([]byte{byte(i)})
		switch {
		case c == `"`:
			accepted(t, `"a"`, text("a", 0), end(3))
			refused(t, `"a""`, api.ErrFormat, 4)
		case c == `\`:
			refused(t, `"a\"`, api.ErrFormat, 4)
			refused(t, `"a\b"`, api.ErrFormat, 2)
		case i >= 32 && i <= 126:
			accepted(t, `"a`+c+`"`, text("a"+c, 0), end(4))
		default:
			refused(t, `"a`+c+`"`, api.ErrFormat, 2)
			refused(t, `"a`+c, api.ErrFormat, 2)
		}
		if c == `"` || c == `\` {
			accepted(t, `"a\`+c+`"`, text("a"+c, 0), end(5))
		} else {
			refused(t, `"a\`+c+`"`, api.ErrFormat, 2)
		}
	}
}

func TestMarks(t *testing.T) {
	if len(marks) != 16 {
		t.Errorf("%d marks", len(marks))
	}
	for _, c := range marks {
		accepted(t, string(c), mark(string(c), 0), end(1))
		accepted(t, "a"+string(c)+string(c)+"1", name("a", 0), mark(string(c), 1), mark(string(c), 2), number(1, 3), end(4))
	}
	for _, s := range []string{"*", "+", "/", "<", ">", "$", "%", "'", "^", "`", "~", `\`, "_", "\r", "\v", "\f", "\x00", "\x7f", "\u00a0", "\u2028"} {
		refused(t, s, api.ErrFormat, 0)
		refused(t, ";"+s+";", api.ErrFormat, 1)
	}
}

// Each byte directly after a token of each kind.
func TestBytesAfterTokens(t *testing.T) {
	for i := range 256 {
		c := string([]byte{byte(i)})
		isDigit := strings.Contains(digits, c)
		afterToken(t, text("a", 0), `"a"`, c)
		afterToken(t, mark("}", 0), "}", c)
		switch {
		case c == "-":
			refused(t, "ab"+c, api.ErrFormat, 2)
		case isDigit || c == "_" || strings.Contains(letters, c):
			accepted(t, "ab"+c, name("ab"+c, 0), end(3))
		default:
			afterToken(t, name("ab", 0), "ab", c)
		}
		switch {
		case c == "-" || c == "_" || strings.Contains(letters, c):
			refused(t, "0"+c, api.ErrFormat, 1)
			refused(t, "12"+c+" $", api.ErrFormat, 2)
			refused(t, "-3"+c+"4", api.ErrFormat, 2)
		case isDigit:
			refused(t, "0"+c, api.ErrFormat, 0)
			accepted(t, "12"+c, number(120+int64(i-'0'), 0), end(3))
			accepted(t, "-3"+c, number(-30-int64(i-'0'), 0), end(3))
		default:
			afterToken(t, number(0, 0), "0", c)
			afterToken(t, number(12, 0), "12", c)
			afterToken(t, number(-3, 0), "-3", c)
		}
	}
}

// afterToken checks that a byte directly after a token, whose text is s, is
// what it is as a text of its own.
func afterToken(t *testing.T, token api.Token, s, c string) {
	t.Helper()
	rest, e, at := lexer.Scan(c)
	if e != api.OK {
		refused(t, s+c, e, len(s)+at)
		return
	}
	want := []api.Token{token}
	for _, next := range rest {
		next.At += len(s)
		want = append(want, next)
	}
	accepted(t, s+c, want...)
}

func TestTokensSideBySide(t *testing.T) {
	accepted(t, `a"b"c`, name("a", 0), text("b", 1), name("c", 4), end(5))
	accepted(t, `"a"-5`, text("a", 0), number(-5, 3), end(5))
	accepted(t, `"a"5"b"`, text("a", 0), number(5, 3), text("b", 4), end(7))
	accepted(t, `"a""b"`, text("a", 0), text("b", 3), end(6))
	accepted(t, `"a";`, text("a", 0), mark(";", 3), end(4))
	accepted(t, "x=-1", name("x", 0), mark("=", 1), number(-1, 2), end(4))
	accepted(t, "[1,-2]", mark("[", 0), number(1, 1), mark(",", 2), number(-2, 3), mark("]", 5), end(6))
	accepted(t, "1.5", number(1, 0), mark(".", 1), number(5, 2), end(3))
	refused(t, "1.-", api.ErrFormat, 2)
	refused(t, `"a"_`, api.ErrFormat, 3)
	refused(t, "1-2", api.ErrFormat, 1)
	refused(t, "1--2", api.ErrFormat, 1)
	refused(t, "1e5", api.ErrFormat, 1)
	refused(t, "0x1", api.ErrFormat, 1)
	refused(t, "1_000", api.ErrFormat, 1)
	refused(t, "-5_", api.ErrFormat, 2)
	refused(t, "+5", api.ErrFormat, 0)
}

// Of two errors, the first one counts.
func TestFirstErrors(t *testing.T) {
	long, big := "abcdefghijklmnopq", "9223372036854775808"
	refused(t, "$ 007", api.ErrFormat, 0)
	refused(t, "007 $", api.ErrFormat, 0)
	refused(t, "a 12b 007", api.ErrFormat, 4)
	refused(t, long+" $", api.ErrLong, 0)
	refused(t, "$ "+long, api.ErrFormat, 0)
	refused(t, big+" "+long, api.ErrRange, 0)
	refused(t, long+" "+big, api.ErrLong, 0)
	refused(t, "a- "+long, api.ErrFormat, 1)
	refused(t, big+"a", api.ErrRange, 0)
	refused(t, "0"+big, api.ErrFormat, 0)
	refused(t, `"`+strings.Repeat("x", 201)+`"-`, api.ErrLong, 0)
	refused(t, `"a`+"\n"+long, api.ErrFormat, 2)
	refused(t, `"a" "`+"\x00\x01", api.ErrFormat, 5)
	refused(t, "# $\n 1a 2b", api.ErrFormat, 6)
}
