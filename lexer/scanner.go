package lexer

import "robotics/api"

// Scanner walks over the tokens of a text.
type Scanner struct {
	left []api.Token // from the next token to the end, which always stays
}

// NewScanner returns a scanner of the tokens of s.
func NewScanner(s string) (*Scanner, api.Errno, int) {
	tokens, e, at := Scan(s)
	if e != api.OK {
		return nil, e, at
	}
	return &Scanner{left: tokens}, api.OK, 0
}

// Peek returns the next token.
func (c *Scanner) Peek() api.Token {
	if c == nil || len(c.left) == 0 {
		return api.Token{}
	}
	return c.left[0]
}

// Next returns the next token and moves past it.
func (c *Scanner) Next() api.Token {
	token := c.Peek()
	if token.Kind != api.TkEnd {
		c.left = c.left[1:]
	}
	return token
}

// Mark moves past the next token if it is the mark s.
func (c *Scanner) Mark(s string) bool {
	return c.take(api.TkMark, s)
}

// Word moves past the next token if it is the name s.
func (c *Scanner) Word(s string) bool {
	return c.take(api.TkName, s)
}

// take moves past the next token if it has this kind and text.
func (c *Scanner) take(kind int, text string) bool {
	token := c.Peek()
	if token.Kind != kind || token.Text != text {
		return false
	}
	c.Next()
	return true
}
