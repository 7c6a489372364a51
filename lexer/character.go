package lexer

import "slices"

// kind is a kind of characters.
type kind int

const (
	nothing kind = iota // the end of the text
	space
	letter
	digit
	underscore
	minus
	quotation
	numberSign
	mark
	other // stands only in strings and remarks, if at all
)

// kindOf returns the kind of a character.
func kindOf(c rune) kind {
	switch c {
	case ' ', '\t', '\n':
		return space
	case '_':
		return underscore
	case '-':
		return minus
	case '"':
		return quotation
	case '#':
		return numberSign
	case '{', '}', '(', ')', '[', ']', ':', ';', ',', '=', '.', '?', '!', '&', '|', '@':
		return mark
	}
	switch {
	case 'a' <= c && c <= 'z', 'A' <= c && c <= 'Z':
		return letter
	case '0' <= c && c <= '9':
		return digit
	}
	return other
}

// kindAt returns the kind of the character at an offset.
func kindAt(s string, at int) kind {
	if at >= len(s) {
		return nothing
	}
	// Offsets count bytes, so a byte is a character here; those above 127 are
	// of the kind other.
	return kindOf(rune(s[at]))
}

// past returns the first offset from at on whose character has none of the kinds.
func past(s string, at int, kinds ...kind) int {
	for slices.Contains(kinds, kindAt(s, at)) {
		at++
	}
	return at
}
