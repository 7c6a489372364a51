package checksum

import "unicode/utf8"

// bytesOf returns the digits of n in base 256, the least significant one first.
func bytesOf(n uint64) [8]byte {
	var digits [8]byte
	for i := range digits {
		digits[i] = byte(n >> (byteBits * i))
	}
	return digits
}

// fold returns what n becomes when step adds the bytes of s to it, one after
// another.
func fold[N uint32 | uint64](n N, s string, step func(n N, b byte) N) N {
	for at, character := range s {
		for i := range width(character, s[at:]) {
			n = step(n, s[at+i])
		}
	}
	return n
}

// width returns the number of bytes of a character with which s begins.
func width(character rune, s string) int {
	// A range gives this character also for a single byte that is no UTF-8 text.
	if character == utf8.RuneError {
		_, bytes := utf8.DecodeRuneInString(s)
		return bytes
	}
	return utf8.RuneLen(character)
}
