package lexer_test

import (
	"math/rand"
	"slices"
	"strings"
	"testing"

	"robotics/api"
	"robotics/lexer"
)

// P6.7

// readBack checks that the tokens of Print of a list of valid tokens are these.
func readBack(t *testing.T, l []api.Token) {
	t.Helper()
	s := lexer.Print(l)
	got, e, at := lexer.Scan(s)
	if len(s) > 4000 {
		if e != api.ErrLong || at != 0 {
			t.Errorf("Scan(%q) = %v, %v, %d", s, got, e, at)
		}
		return
	}
	want := append(slices.Clone(l), end(0))
	same := func(a, b api.Token) bool {
		a.At, b.At = 0, 0
		return a == b
	}
	if e != api.OK || !slices.EqualFunc(got, want, same) {
		t.Errorf("Scan of Print(%v), which is %q, = %v, %v, %d", l, s, got, e, at)
	}
	// The token at an offset is what Print wrote there.
	at = 0
	for i, token := range l {
		if e == api.OK && got[i].At != at {
			t.Errorf("of %q: %v, want the offset %d", s, got[i], at)
		}
		at += len(lexer.Print([]api.Token{token})) + 1
	}
}

func TestTokensAreReadBack(t *testing.T) {
	readBack(t, nil)
	for _, a := range samples() {
		readBack(t, []api.Token{a})
		for _, b := range samples() {
			readBack(t, []api.Token{a, b})
			readBack(t, []api.Token{b, a, b})
		}
	}
	r := rand.New(rand.NewSource(4))
	for range 10000 {
		l := make([]api.Token, r.Intn(60))
		for i := range l {
			l[i] = randomToken(r)
		}
		readBack(t, l)
	}
	// The longest text, and one that is too long.
	readBack(t, slices.Repeat([]api.Token{name("abc", 0)}, 1000))
	readBack(t, append(slices.Repeat([]api.Token{name("abc", 0)}, 999), name("abcd", 0)))
	readBack(t, append(slices.Repeat([]api.Token{name("abc", 0)}, 999), name("abcde", 0)))
}

// Printing again what was scanned changes nothing any more.
func TestPrintedTextsStay(t *testing.T) {
	forTexts(func(s string) {
		l, e, _ := lexer.Scan(s)
		if e != api.OK {
			return
		}
		once := lexer.Print(l)
		again, e, _ := lexer.Scan(once)
		if twice := lexer.Print(again); len(once) <= 4000 && (e != api.OK || twice != once) {
			t.Errorf("%q is printed as %q and then as %q, %v", s, once, twice, e)
		}
	})
}

// P6.8

func TestOffsetsAscend(t *testing.T) {
	forTexts(func(s string) {
		l, e, _ := lexer.Scan(s)
		if e != api.OK {
			return
		}
		if len(l) == 0 || l[len(l)-1] != end(len(s)) {
			t.Fatalf("Scan(%q) = %v", s, l)
		}
		before := -1
		for _, token := range l {
			if token.At <= before {
				t.Errorf("Scan(%q) = %v", s, l)
			}
			before = token.At
			if token.Kind != api.TkEnd && strings.Contains(" \t\n#", s[token.At:token.At+1]) {
				t.Errorf("of %q: %v begins with %q", s, token, s[token.At])
			}
		}
	})
}

// R1

func TestAllArguments(t *testing.T) {
	r := rand.New(rand.NewSource(5))
	for range 50000 {
		s := randomOf(r, allBytes(), r.Intn(40))
		lexer.Scan(s)
		lexer.NewScanner(s)
		lexer.IsName(s)
		token := api.Token{Kind: r.Intn(8) - 2, Text: s, N: int64(r.Uint64()), At: int(r.Uint64())}
		lexer.Print([]api.Token{token, {}, token})
	}
	for _, s := range []string{allBytes(), "a", "\"", "\\", "0", "-", "#", " ", "\xff"} {
		long := strings.Repeat(s, 1<<16)
		refused(t, long, api.ErrLong, 0)
		if lexer.IsName(long) {
			t.Errorf("%q, many times, is a name", s)
		}
		var l []api.Token
		for kind := -1; kind < 6; kind++ {
			if kind != api.TkNumber {
				l = append(l, api.Token{Kind: kind, Text: long})
			}
		}
		printed(t, "", l...)
	}
}

// R2: together with an error there are no tokens, whatever came before it.
func TestErrorsComeAlone(t *testing.T) {
	failed := 0
	forTexts(func(s string) {
		l, e, at := lexer.Scan(s)
		if e == api.OK && at != 0 || e != api.OK && len(l) != 0 || at < 0 || at > len(s) {
			t.Errorf("Scan(%q) = %v, %v, %d", s, l, e, at)
		}
		if e != api.OK {
			failed++
		}
	})
	if failed < 10000 {
		t.Errorf("only %d texts had an error", failed)
	}
}

// R3 and R7

func TestResultsAreNew(t *testing.T) {
	s := `a = -5 "b" ;`
	want, _, _ := scan(s)
	one, _, _ := lexer.Scan(s)
	// What is done to one result is not seen in another one.
	for i := range one {
		one[i] = api.Token{Kind: 9, Text: "changed", N: 1, At: 1}
	}
	_ = append(one[:0], slices.Repeat(one, 2)...)
	for _, other := range pieces() {
		lexer.Scan(other)
		lexer.NewScanner(other)
		lexer.IsName(other)
		if got, e, at := lexer.Scan(s); !slices.Equal(got, want) || e != api.OK || at != 0 {
			t.Errorf("after %q: Scan(%q) = %v, %v, %d", other, s, got, e, at)
		}
		if got := lexer.Print(want); got != s {
			t.Errorf("after %q: Print = %q", other, got)
		}
	}
}

func TestPrintDoesNotChangeItsArgument(t *testing.T) {
	r := rand.New(rand.NewSource(6))
	for range 2000 {
		all := make([]api.Token, r.Intn(20)+5)
		for i := range all {
			all[i] = randomToken(r)
			if r.Intn(3) == 0 {
				all[i] = others()[r.Intn(len(others()))]
			}
		}
		before := slices.Clone(all)
		l := all[:r.Intn(len(all))] // with spare capacity
		want := ""
		for _, token := range l {
			if valid(token) {
				want += " " + lexer.Print([]api.Token{token})
			}
		}
		printed(t, strings.TrimPrefix(want, " "), l...)
		if !slices.Equal(all, before) {
			t.Fatalf("Print changed %v to %v", before, all)
		}
	}
}
