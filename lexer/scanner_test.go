package lexer_test

import (
	"math/rand"
	"testing"

	"robotics/api"
	"robotics/lexer"
)

// scannerOf returns a scanner of a text that has no error.
func scannerOf(t *testing.T, s string) *lexer.Scanner {
	t.Helper()
	c, e, at := lexer.NewScanner(s)
	if c == nil || e != api.OK || at != 0 {
		t.Fatalf("NewScanner(%q) = %v, %v, %d", s, c, e, at)
	}
	return c
}

// stands checks which token is the next one, and that Peek does not move.
func stands(t *testing.T, c *lexer.Scanner, want api.Token) {
	t.Helper()
	for range 3 {
		if got := c.Peek(); got != want {
			t.Errorf("Peek() = %v, want %v", got, want)
		}
	}
}

// P6.3

func TestNewScanner(t *testing.T) {
	stands(t, scannerOf(t, "a = -5"), name("a", 0))
	stands(t, scannerOf(t, " # remark\n \"x\""), text("x", 11))
	stands(t, scannerOf(t, ""), end(0))
	stands(t, scannerOf(t, " # remark"), end(9))
}

// A scanner is there for the texts that Scan accepts, and the errors are the same.
func TestErrorsOfNewScanner(t *testing.T) {
	forTexts(func(s string) {
		l, want, offset := lexer.Scan(s)
		c, e, at := lexer.NewScanner(s)
		if (c == nil) != (want != api.OK) || e != want || at != offset {
			t.Fatalf("NewScanner(%q) = %v, %v, %d, want %v, %d", s, c, e, at, want, offset)
		}
		for _, token := range l {
			if got := c.Next(); got != token {
				t.Errorf("of %q: Next() = %v, want %v", s, got, token)
			}
		}
	})
}

// P6.4

func TestNext(t *testing.T) {
	c := scannerOf(t, "go { 3 \"x\"")
	for _, want := range []api.Token{name("go", 0), mark("{", 3), number(3, 5), text("x", 7)} {
		stands(t, c, want)
		if got := c.Next(); got != want {
			t.Errorf("Next() = %v, want %v", got, want)
		}
	}
	for range 5 {
		stands(t, c, end(10))
		if got := c.Next(); got != end(10) {
			t.Errorf("Next() at the end = %v", got)
		}
	}
}

// P6.5

func TestMark(t *testing.T) {
	c := scannerOf(t, "= ; ; x \";\" 5")
	for _, other := range []string{"", ";", "==", "= ", "= ;", " =", "x", "5", "\x00"} {
		if c.Mark(other) || c.Word(other) {
			t.Errorf("the mark = is taken for %q", other)
		}
	}
	if c.Word("=") {
		t.Error("the mark = is taken for a name")
	}
	stands(t, c, mark("=", 0))
	if !c.Mark("=") || c.Mark("=") || !c.Mark(";") || !c.Mark(";") || c.Mark(";") {
		t.Error("marks")
	}
	stands(t, c, name("x", 6))
	if c.Mark("x") {
		t.Error("the name x is taken for a mark")
	}
	c.Next()
	if c.Mark(";") || c.Word(";") || c.Mark("\";\"") {
		t.Error("the string ; is taken for a mark")
	}
	stands(t, c, text(";", 8))
	c.Next()
	if c.Mark("5") || c.Mark("") {
		t.Error("the number 5 is taken for a mark")
	}
	stands(t, c, number(5, 12))
}

func TestEachMark(t *testing.T) {
	c := scannerOf(t, marks)
	for i := range len(marks) {
		for k := range len(marks) {
			if k != i && c.Mark(marks[k:k+1]) {
				t.Errorf("the mark %q is taken for %q", marks[i], marks[k])
			}
		}
		if !c.Mark(marks[i : i+1]) {
			t.Errorf("the mark %q is not taken", marks[i])
		}
	}
	stands(t, c, end(len(marks)))
}

func TestWord(t *testing.T) {
	c := scannerOf(t, "go Go 3 \"go\" ; go")
	for _, other := range []string{"", "g", "goo", "Go", "GO", "go ", " go", "go Go", "3", ";"} {
		if c.Word(other) || c.Mark(other) {
			t.Errorf("the name go is taken for %q", other)
		}
	}
	if c.Mark("go") {
		t.Error("the name go is taken for a mark")
	}
	stands(t, c, name("go", 0))
	if !c.Word("go") || c.Word("go") || !c.Word("Go") || c.Word("3") || c.Word("") {
		t.Error("names")
	}
	stands(t, c, number(3, 6))
	c.Next()
	if c.Word("go") || c.Mark("go") {
		t.Error("the string go is taken for a name")
	}
	stands(t, c, text("go", 8))
	c.Next()
	if c.Word(";") || c.Word("go") || !c.Mark(";") || !c.Word("go") {
		t.Error("the last name")
	}
	stands(t, c, end(17))
}

func TestEmptyStringsAndNumbersHaveNoWord(t *testing.T) {
	c := scannerOf(t, `"" 0`)
	for _, want := range []api.Token{text("", 0), number(0, 3), end(4)} {
		if c.Word("") || c.Mark("") || c.Word(`""`) || c.Word("0") || c.Mark("0") {
			t.Errorf("%v is taken", want)
		}
		stands(t, c, want)
		c.Next()
	}
}

func TestEnds(t *testing.T) {
	for _, s := range []string{"", " ", "# remark", "a", "; "} {
		c := scannerOf(t, s)
		for c.Next().Kind != api.TkEnd {
		}
		for range 3 {
			for _, word := range []string{"", "a", ";", " ", "end", "\x00"} {
				if c.Mark(word) || c.Word(word) {
					t.Errorf("the end of %q is taken for %q", s, word)
				}
			}
			stands(t, c, end(len(s)))
			if got := c.Next(); got != end(len(s)) {
				t.Errorf("Next() at the end of %q = %v", s, got)
			}
		}
	}
}

// Scanners do what a position in the list of Scan does.
func TestScanners(t *testing.T) {
	r := rand.New(rand.NewSource(3))
	for range 20000 {
		s := randomText(r)
		l, e, _ := lexer.Scan(s)
		if e != api.OK {
			continue
		}
		c, at := scannerOf(t, s), 0
		for range 2 * len(l) {
			next, other := l[at], l[r.Intn(len(l))]
			moves := false
			switch r.Intn(4) {
			case 0:
				if got := c.Peek(); got != next {
					t.Fatalf("of %q: Peek() = %v, want %v", s, got, next)
				}
			case 1:
				moves = true
				if got := c.Next(); got != next {
					t.Fatalf("of %q: Next() = %v, want %v", s, got, next)
				}
			case 2:
				moves = next.Kind == api.TkMark && next.Text == other.Text
				if got := c.Mark(other.Text); got != moves {
					t.Fatalf("of %q: at %v, Mark(%q) = %v", s, next, other.Text, got)
				}
			case 3:
				moves = next.Kind == api.TkName && next.Text == other.Text
				if got := c.Word(other.Text); got != moves {
					t.Fatalf("of %q: at %v, Word(%q) = %v", s, next, other.Text, got)
				}
			}
			if moves && next.Kind != api.TkEnd {
				at++
			}
		}
	}
}

// R4

func TestNilScanners(t *testing.T) {
	var none *lexer.Scanner
	for range 3 {
		if none.Peek() != (api.Token{}) || none.Next() != (api.Token{}) {
			t.Errorf("a nil scanner: %v, %v", none.Peek(), none.Next())
		}
		for _, s := range []string{"", "a", ";", "end"} {
			if none.Mark(s) || none.Word(s) {
				t.Errorf("a nil scanner takes %q", s)
			}
		}
	}
}

// R1

// A Scanner that no function returned only terminates and does not panic.
func TestPlainScanners(t *testing.T) {
	var plain lexer.Scanner
	for _, c := range []*lexer.Scanner{{}, new(lexer.Scanner), &plain} {
		for range 3 {
			c.Mark(";")
			c.Mark("")
			c.Word("a")
			c.Word("")
			c.Peek()
			c.Next()
		}
	}
}

// R3 and R7

// Scanners of the same text do not know of each other.
func TestScannersAreIndependent(t *testing.T) {
	s := "a = 1 ; b"
	one, other := scannerOf(t, s), scannerOf(t, s)
	if !one.Word("a") || !one.Mark("=") {
		t.Error("the first scanner does not move")
	}
	stands(t, one, number(1, 4))
	stands(t, other, name("a", 0))
	l, _, _ := lexer.Scan(s)
	for i := range l {
		l[i] = name("changed", 1)
	}
	stands(t, one, number(1, 4))
	stands(t, scannerOf(t, s), name("a", 0))
	if other.Next() != name("a", 0) || !other.Mark("=") {
		t.Error("the second scanner does not move")
	}
}
