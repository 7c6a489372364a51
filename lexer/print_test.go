package lexer_test

import (
	"math/rand"
	"slices"
	"strings"
	"testing"

	"robotics/api"
	"robotics/lexer"
)

// printed checks what Print returns.
func printed(t *testing.T, want string, l ...api.Token) {
	t.Helper()
	if got := lexer.Print(l); got != want {
		t.Errorf("Print(%v) = %q, want %q", l, got, want)
	}
}

// P6.2

func TestPrintExamples(t *testing.T) {
	l, _, _ := lexer.Scan("x=1")
	printed(t, "x = 1", l...)
	l, _, _ = lexer.Scan("\tnode\"a b\";# remark\n;-5 ")
	printed(t, `node "a b" ; ; -5`, l...)
}

func TestPrintOfSingleTokens(t *testing.T) {
	printed(t, "Pose_2", name("Pose_2", 0))
	printed(t, "abcdefghijklmnop", name("abcdefghijklmnop", 9))
	printed(t, "0", number(0, 0))
	printed(t, "-1", number(-1, 0))
	printed(t, "-9223372036854775808", number(least, 0))
	printed(t, "9223372036854775807", number(most, 0))
	printed(t, `""`, text("", 0))
	printed(t, `" ~"`, text(" ~", 0))
	printed(t, `"\""`, text(`"`, 0))
	printed(t, `"\\"`, text(`\`, 0))
	printed(t, `"\\\"a\"\\"`, text(`\"a"\`, 0))
	printed(t, `"\\n"`, text(`\n`, 0))
	printed(t, `"`+strings.Repeat(`\"`, 200)+`"`, text(strings.Repeat(`"`, 200), 0))
	for _, c := range marks {
		printed(t, string(c), mark(string(c), 0))
	}
}

// The offsets of the tokens do not matter.
func TestPrintOfTokensWithOffsets(t *testing.T) {
	for _, at := range []int{least, -1, 0, 1, 5000, most} {
		printed(t, `a 1 "" ; b`, name("a", at), number(1, at), text("", -at), mark(";", at), name("b", 0))
	}
}

func TestPrintOfLists(t *testing.T) {
	printed(t, "")
	if got := lexer.Print([]api.Token{}); got != "" {
		t.Errorf("Print of an empty list = %q", got)
	}
	printed(t, "a", end(0), name("a", 0), end(1), end(2))
	printed(t, "a b", name("a", 0), end(3), name("b", 0))
	printed(t, "", end(0))
	printed(t, "", end(0), end(0), api.Token{Kind: 9, Text: "a"})
	printed(t, "a ; 1", name("1a", 0), name("a", 0), mark("*", 0), mark(";", 0), number(1, 0), text("\n", 0))
	printed(t, strings.Repeat("; ", 9999)+";", slices.Repeat([]api.Token{mark(";", 0)}, 10000)...)
}

func TestPrintLeavesOutWhatIsNotValid(t *testing.T) {
	for _, other := range others() {
		if valid(other) {
			t.Errorf("%#v is valid", other)
		}
		printed(t, "", other)
		printed(t, "a 1", name("a", 0), other, number(1, 0))
		printed(t, "a", other, name("a", 0), other, other)
	}
}

func TestPrintKeepsWhatIsValid(t *testing.T) {
	for _, token := range samples() {
		if !valid(token) {
			t.Errorf("%#v is not valid", token)
		}
		want := lexer.Print([]api.Token{token})
		if want == "" {
			t.Errorf("Print of %#v is empty", token)
		}
		printed(t, "a "+want+" b", name("a", 0), token, end(0), name("b", 0))
	}
}

// A token is printed if it is valid as the oracle says, and only then.
func TestValidTokens(t *testing.T) {
	check := func(token api.Token) {
		if got := lexer.Print([]api.Token{token}) != ""; got != valid(token) {
			t.Errorf("%#v is printed: %v", token, got)
		}
	}
	kinds := []int{-1, api.TkEnd, api.TkName, api.TkNumber, api.TkString, api.TkMark, 5}
	withAll := func(s string) {
		for _, kind := range kinds {
			check(api.Token{Kind: kind, Text: s})
			check(api.Token{Kind: kind, Text: s, N: 7})
		}
	}
	forShortTexts("", 2, allBytes(), withAll)
	forShortTexts("", 4, "aZ_-09 \n#\"\\;.\x7f\x80", withAll)
	for _, a := range pieces() {
		for _, b := range pieces() {
			withAll(a + b)
		}
	}
	r := rand.New(rand.NewSource(2))
	for range 5000 {
		token := randomToken(r)
		check(token)
		withAll(token.Text)
	}
}

// A token is valid if it is one of those that Scan returns, and no other one.
func TestTokensOfScanAreValid(t *testing.T) {
	forTexts(func(s string) {
		l, _, _ := lexer.Scan(s)
		for _, token := range l {
			if got := lexer.Print([]api.Token{token}) != ""; got != (token.Kind != api.TkEnd) {
				t.Errorf("%#v of %q is printed: %v", token, s, got)
			}
		}
	})
}

// P6.6

func TestIsName(t *testing.T) {
	for _, s := range []string{"a", "z", "A", "Z", "a_1", "a1", "a_", "ab", "Pose", "abcdefghijklmnop", "a234567890123456", "A_______________"} {
		if !lexer.IsName(s) {
			t.Errorf("%q is no name", s)
		}
	}
	for _, s := range []string{
		"", "1a", "_a", "_", "1", "-a", "a-", "a-b", "a b", " a", "a ", "a\n", "\na", "a\t", "a#", "#a", "a.b", "a;", `"a"`, `a"`, "a\x00", "\x00",
		"a\u00e4", "\u00e4", "a\xff", "\xc3", "0", "9z", "a*", "abcdefghijklmnopq", "a2345678901234567", strings.Repeat("a", 4001), "abcdefghijklmnop ", "abcdefghijklmnop-",
	} {
		if lexer.IsName(s) {
			t.Errorf("%q is a name", s)
		}
	}
	for length := range 30 {
		if got := lexer.IsName(strings.Repeat("x", length)); got != (length >= 1 && length <= 16) {
			t.Errorf("%d letters are a name: %v", length, got)
		}
	}
	forTexts(func(s string) {
		if got := lexer.IsName(s); got != valid(name(s, 0)) {
			t.Errorf("%q is a name: %v", s, got)
		}
	})
}

// A name is what Scan takes for one.
func TestNamesAreScanned(t *testing.T) {
	forTexts(func(s string) {
		l, e, _ := lexer.Scan(s)
		whole := e == api.OK && len(l) == 2 && l[0] == name(s, 0)
		if got := lexer.IsName(s); got != whole {
			t.Errorf("%q is a name: %v, but its tokens are %v", s, got, l)
		}
	})
}
