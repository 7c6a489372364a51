package lexer

import (
	"strconv"
	"strings"

	"robotics/api"
)

const maxContent = 200 // bytes of the content of a string

// cut returns the token that begins at an offset, and the offset behind it; or
// an error and its offset. So do the functions for the kinds of tokens.
func cut(s string, at int) (api.Token, api.Errno, int) {
	switch kindAt(s, at) {
	case letter:
		return cutName(s, at)
	case digit, minus:
		return cutNumber(s, at)
	case quotation:
		return cutString(s, at)
	case mark:
		return api.Token{Kind: api.TkMark, Text: s[at : at+1], At: at}, api.OK, at + 1
	}
	return api.Token{}, api.ErrFormat, at
}

func cutName(s string, at int) (api.Token, api.Errno, int) {
	next := past(s, at, letter, digit, underscore)
	if next-at > api.MaxName {
		return api.Token{}, api.ErrLong, at
	}
	if joined(s, next) {
		return api.Token{}, api.ErrFormat, next
	}
	return api.Token{Kind: api.TkName, Text: s[at:next], At: at}, api.OK, next
}

func cutNumber(s string, at int) (api.Token, api.Errno, int) {
	digits := at
	if kindAt(s, at) == minus {
		digits++
	}
	next := past(s, digits, digit)
	if !isDecimal(s[at:next]) {
		return api.Token{}, api.ErrFormat, at
	}
	n, err := strconv.ParseInt(s[at:next], 10, 64)
	if err != nil {
		return api.Token{}, api.ErrRange, at
	}
	if joined(s, next) {
		return api.Token{}, api.ErrFormat, next
	}
	return api.Token{Kind: api.TkNumber, N: n, At: at}, api.OK, next
}

// isDecimal reports whether digits, with or without a minus sign, are a number
// in the only form that is accepted.
func isDecimal(number string) bool {
	digits := strings.TrimPrefix(number, "-")
	return number == "0" || digits != "" && digits[0] != '0'
}

// joined reports whether the character at an offset may not stand directly
// after a name or a number.
func joined(s string, at int) bool {
	switch kindAt(s, at) {
	case letter, digit, underscore, minus:
		return true
	}
	return false
}

func cutString(s string, at int) (api.Token, api.Errno, int) {
	content, e, next := cutContent(s, at+1)
	if e != api.OK {
		return api.Token{}, e, next
	}
	if len(content) > maxContent {
		return api.Token{}, api.ErrLong, at
	}
	return api.Token{Kind: api.TkString, Text: content, At: at}, api.OK, next
}

// cutContent returns what a string contains whose opening quotation mark is
// before an offset, and the offset behind the closing one.
func cutContent(s string, at int) (string, api.Errno, int) {
	var content []byte
	for ; at < len(s); at++ {
		switch c := rune(s[at]); {
		case c == '"':
			return string(content), api.OK, at + 1
		case c < ' ', c > '~', c == '\\' && !isQuoted(s, at+1):
			return "", api.ErrFormat, at
		case c == '\\':
			at++
		}
		content = append(content, s[at])
	}
	return "", api.ErrFormat, at
}

// isQuoted reports whether the character at an offset is one that stands behind
// a backslash in strings.
func isQuoted(s string, at int) bool {
	return at < len(s) && (s[at] == '"' || s[at] == '\\')
}
