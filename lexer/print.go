package lexer

import (
	"strconv"
	"strings"

	"robotics/api"
)

// Print returns the valid tokens of a list, separated by single spaces.
func Print(l []api.Token) string {
	var words []string
	for _, token := range l {
		if isValid(token) {
			words = append(words, written(token))
		}
	}
	return strings.Join(words, " ")
}

// IsName reports whether s is a name of at most MaxName bytes.
func IsName(s string) bool {
	return isValid(api.Token{Kind: api.TkName, Text: s})
}

// isValid reports whether a token can occur in a result of Scan, at any
// offset, before the end.
func isValid(token api.Token) bool {
	token.At = 0
	// Only a valid token is itself the first one of the text it is written as.
	first, e, _ := cut(written(token), 0)
	return e == api.OK && first == token
}

// written returns the text of a token, which is of no use if it is not valid.
func written(token api.Token) string {
	switch token.Kind {
	case api.TkNumber:
		return strconv.FormatInt(token.N, 10)
	case api.TkString:
		return quote(token.Text)
	}
	return token.Text
}

// quote returns the string with this content.
func quote(content string) string {
	content = strings.ReplaceAll(content, `\`, `\\`)
	return `"` + strings.ReplaceAll(content, `"`, `\"`) + `"`
}
