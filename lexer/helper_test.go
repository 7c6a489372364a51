package lexer_test

import (
	"math/big"
	"math/rand"
	"regexp"
	"slices"
	"strings"
	"testing"

	"robotics/api"
	"robotics/lexer"
)

const (
	least   = -1 << 63
	most    = 1<<63 - 1
	marks   = "{}()[]:;,=.?!&|@"
	letters = "abcdefghijklmnopqrstuvwxyzABCDEFGHIJKLMNOPQRSTUVWXYZ"
	digits  = "0123456789"
)

// Tokens, with an offset.

func name(text string, at int) api.Token {
	return api.Token{Kind: api.TkName, Text: text, At: at}
}

func number(n int64, at int) api.Token {
	return api.Token{Kind: api.TkNumber, N: n, At: at}
}

func text(content string, at int) api.Token {
	return api.Token{Kind: api.TkString, Text: content, At: at}
}

func mark(character string, at int) api.Token {
	return api.Token{Kind: api.TkMark, Text: character, At: at}
}

func end(at int) api.Token {
	return api.Token{Kind: api.TkEnd, At: at}
}

// accepted checks that Scan returns these tokens.
func accepted(t *testing.T, s string, want ...api.Token) {
	t.Helper()
	if got, e, at := lexer.Scan(s); !slices.Equal(got, want) || e != api.OK || at != 0 {
		t.Errorf("Scan(%q) = %v, %v, %d, want %v", s, got, e, at, want)
	}
}

// refused checks that Scan and NewScanner return the error with its offset,
// and nothing else.
func refused(t *testing.T, s string, want api.Errno, offset int) {
	t.Helper()
	if got, e, at := lexer.Scan(s); len(got) != 0 || e != want || at != offset {
		t.Errorf("Scan(%q) = %v, %v, %d, want %v at %d", s, got, e, at, want, offset)
	}
	if c, e, at := lexer.NewScanner(s); c != nil || e != want || at != offset {
		t.Errorf("NewScanner(%q) = %v, %v, %d, want %v at %d", s, c, e, at, want, offset)
	}
}

// The chapter's definitions, as regular expressions of what a text begins with.
var (
	separation = regexp.MustCompile(`^(?:[ \t\n]|#[^\n]*)*`)
	aName      = regexp.MustCompile(`^[a-zA-Z][a-zA-Z0-9_]*`)
	aNumber    = regexp.MustCompile(`^-?[0-9]*`)
	decimal    = regexp.MustCompile(`^(?:0|-?[1-9][0-9]*)$`)
	contents   = regexp.MustCompile(`^"(?:[ !#-\[\]-~]|\\["\\])*`)
	aMark      = regexp.MustCompile(`^[{}()\[\]:;,=.?!&|@]`)
	gluedName  = regexp.MustCompile(`^-`)
	gluedTo    = regexp.MustCompile(`^[a-zA-Z_-]`)
)

// scan is the oracle's Scan.
func scan(s string) ([]api.Token, api.Errno, int) {
	if len(s) > 4000 {
		return nil, api.ErrLong, 0
	}
	var tokens []api.Token
	for at := len(separation.FindString(s)); at < len(s); {
		token, length, e, offset := first(s[at:])
		if e != api.OK {
			return nil, e, at + offset
		}
		token.At = at
		tokens = append(tokens, token)
		at += length
		at += len(separation.FindString(s[at:]))
	}
	return append(tokens, end(len(s))), api.OK, 0
}

// first returns the token with which s begins, and its length; or an error and
// its offset.
func first(s string) (token api.Token, length int, e api.Errno, offset int) {
	if found := aName.FindString(s); found != "" {
		switch length := len(found); {
		case length > 16:
			return token, 0, api.ErrLong, 0
		case gluedName.MatchString(s[length:]):
			return token, 0, api.ErrFormat, length
		}
		return name(found, 0), len(found), api.OK, 0
	}
	if found := aNumber.FindString(s); found != "" {
		n, ok := new(big.Int).SetString(found, 10)
		switch length := len(found); {
		case !ok || !decimal.MatchString(found):
			return token, 0, api.ErrFormat, 0
		case !n.IsInt64():
			return token, 0, api.ErrRange, 0
		case gluedTo.MatchString(s[length:]):
			return token, 0, api.ErrFormat, length
		}
		return number(n.Int64(), 0), len(found), api.OK, 0
	}
	if found := contents.FindString(s); found != "" {
		content := strings.NewReplacer(`\\`, `\`, `\"`, `"`).Replace(found[1:])
		switch length := len(found); {
		case !strings.HasPrefix(s[length:], `"`):
			return token, 0, api.ErrFormat, length
		case len(content) > 200:
			return token, 0, api.ErrLong, 0
		}
		return text(content, 0), len(found) + 1, api.OK, 0
	}
	if found := aMark.FindString(s); found != "" {
		return mark(found, 0), 1, api.OK, 0
	}
	return token, 0, api.ErrFormat, 0
}

// valid is the oracle's definition of valid tokens.
func valid(t api.Token) bool {
	switch t.Kind {
	case api.TkName:
		return aName.FindString(t.Text) == t.Text && t.Text != "" && len(t.Text) <= 16 && t.N == 0
	case api.TkNumber:
		return t.Text == ""
	case api.TkString:
		outside := func(c rune) bool { return c < 32 || c > 126 }
		return len(t.Text) <= 200 && !strings.ContainsFunc(t.Text, outside) && t.N == 0
	case api.TkMark:
		return len(t.Text) == 1 && strings.Contains(marks, t.Text) && t.N == 0
	}
	return false
}

// forTexts calls check with texts: all of up to two bytes, those of up to four
// or five bytes such as decide about tokens, pieces in all orders, and random ones.
func forTexts(check func(s string)) {
	forShortTexts("", 2, allBytes(), check)
	forShortTexts("", 4, "aZ_-0179 \t\n#\"\\;=\x00\x7f\x80", check)
	forShortTexts("", 5, "a-01 \n#\"\\", check)
	for _, a := range pieces() {
		for _, b := range pieces() {
			check(a + b)
			check(" " + a + "\n" + b + "#")
		}
	}
	r := rand.New(rand.NewSource(1))
	for range 20000 {
		check(randomText(r))
	}
}

// forShortTexts calls check with start followed by at most left of the bytes.
func forShortTexts(start string, left int, bytes string, check func(s string)) {
	check(start)
	if left == 0 {
		return
	}
	for i := range len(bytes) {
		forShortTexts(start+bytes[i:i+1], left-1, bytes, check)
	}
}

func allBytes() string {
	all := make([]byte, 256)
	for i := range all {
		all[i] = byte(i)
	}
	return string(all)
}

// pieces returns tokens, parts of tokens and what separates them.
func pieces() []string {
	return []string{
		"", " ", "\t", "\n", "\r", "#", "# remark", "# remark\n", "#\"", "\x00", "\xff", "\u00e4", "\ufffd",
		"a", "Z9_", "abcdefghijklmnop", "abcdefghijklmnopq", strings.Repeat("x", 500), "_", "_a", "a_",
		"0", "1", "-1", "-", "--", "-0", "00", "007", "-01", "1_", "1e5", "0x1", "1.5",
		"9223372036854775807", "9223372036854775808", "-9223372036854775808", "-9223372036854775809",
		strings.Repeat("9", 500), "-" + strings.Repeat("9", 500), strings.Repeat("0", 500), "18446744073709551617",
		`"`, `""`, `"a b"`, `"#"`, `"\""`, `"\\"`, `"\`, `"\n"`, "\"\n\"", "\"\x7f\"", "\"\xff\"", "\"\u00e4\"", `\`, `\"`,
		`"` + strings.Repeat(" ", 200) + `"`, `"` + strings.Repeat("~", 201) + `"`,
		`"` + strings.Repeat(`\"`, 200) + `"`, `"` + strings.Repeat(`\\`, 201) + `"`, `"` + strings.Repeat("x", 201),
		"{", "}", "(", ")", "[", "]", ":", ";", ",", "=", ".", "?", "!", "&", "|", "@", "*", "+", "/", "<", "$", "'", "~",
	}
}

// randomText returns a text of some pieces, most of them acceptable tokens.
func randomText(r *rand.Rand) string {
	var s strings.Builder
	for range r.Intn(30) {
		switch r.Intn(12) {
		case 0:
			s.WriteString(pieces()[r.Intn(len(pieces()))])
		case 1:
			s.WriteString("# so \"\xff\n")
		default:
			s.WriteString(lexer.Print([]api.Token{randomToken(r)}))
		}
		s.WriteString([]string{" ", "\t", "\n", "  ", "\n\n", " ", " ", ""}[r.Intn(8)])
	}
	return s.String()
}

// randomToken returns a valid token.
func randomToken(r *rand.Rand) api.Token {
	at := r.Intn(10000) - 5000
	switch r.Intn(4) {
	case 0:
		return name(randomOf(r, letters, 1)+randomOf(r, letters+digits+"_", r.Intn(16)), at)
	case 1:
		return number(int64(r.Uint64())>>r.Intn(64), at)
	case 2:
		return text(randomOf(r, printable()+`"\"\"\`, r.Intn(40)), at)
	}
	return mark(randomOf(r, marks, 1), at)
}

// printable returns the bytes that may stand in strings.
func printable() string {
	return allBytes()[32:127]
}

// randomOf returns so many of the bytes.
func randomOf(r *rand.Rand, bytes string, length int) string {
	s := make([]byte, length)
	for i := range s {
		s[i] = bytes[r.Intn(len(bytes))]
	}
	return string(s)
}

// samples returns valid tokens: the shortest and the longest of each kind, and
// some others, with different offsets.
func samples() []api.Token {
	all := []api.Token{
		name("a", 0), name("Z", 3), name("z_9", -1), name("abcdefghijklmnop", 7), name("A_______________", 0),
		number(0, 0), number(1, 2), number(-1, 0), number(10, 0), number(least, 5), number(least+1, 0), number(most, 0),
		text("", 0), text(" ", 1), text("~", 0), text("a", 0), text("1", 0), text(";", 0), text("a b # c", 0),
		text(`"`, 0), text(`\`, 0), text(`\"`, 0), text(`"\`, 0), text(`\\`, 0), text(`\n`, 0), text(`""`, 0),
		text(printable(), 0), text(strings.Repeat("x", 200), 0), text(strings.Repeat(`"`, 200), 0), text(strings.Repeat(`\`, 200), 0),
	}
	for i := range len(marks) {
		all = append(all, mark(marks[i:i+1], i))
	}
	return all
}

// others returns tokens that are not valid, ends among them.
func others() []api.Token {
	all := []api.Token{
		{}, end(5), {Kind: api.TkEnd, Text: "a"}, {Kind: api.TkEnd, N: 1}, {Kind: api.TkEnd, Text: ";"}, {Kind: api.TkEnd, Text: "end"},
		{Kind: 5, Text: "a"}, {Kind: 5}, {Kind: -1, Text: "a"}, {Kind: least, Text: "a"}, {Kind: most, N: 1}, {Kind: 257, Text: "a"}, {Kind: 1 << 32},
		{Kind: api.TkName, Text: "a", N: 1}, {Kind: api.TkName, Text: "a", N: -1}, {Kind: api.TkName, N: 3},
		{Kind: api.TkNumber, Text: "5"}, {Kind: api.TkNumber, Text: "5", N: 5}, {Kind: api.TkNumber, Text: " ", N: 5}, {Kind: api.TkNumber, Text: "a"},
		{Kind: api.TkString, Text: "a", N: 1}, {Kind: api.TkString, N: -1},
		{Kind: api.TkMark, Text: ";", N: 1}, {Kind: api.TkMark, Text: "=", N: least},
	}
	for _, s := range []string{"", "1a", "_a", "a-", "a-1", "-a", "5", "a b", "a ", " a", "a\n", "a#", "#", ";", `"a"`, "abcdefghijklmnopq", "a.b", "\u00e4", "a\u00e4", "a\x00", "\xff", strings.Repeat("a", 5000)} {
		all = append(all, name(s, 0))
	}
	for _, s := range []string{"\x00", "\n", "\t", "\x1f", "\x7f", "\x80", "\xff", "\u00e4", "\ufffd", "a\n", "\na", strings.Repeat("x", 201), strings.Repeat(`"`, 201), strings.Repeat(`\`, 201), strings.Repeat("x", 5000)} {
		all = append(all, text(s, 0))
	}
	for _, s := range []string{"", "a", "1", "-", "-5", " ", "#", `"`, `""`, `\`, "_", "*", "+", "/", "<", ">", "$", "%", "'", "^", "`", "~", "::", "; ", " ;", ";;", ";a", "\x00", "\xff", "\n", "\u00a7"} {
		all = append(all, mark(s, 0))
	}
	return all
}
