package codec

import (
	"math"

	"robotics/api"
	"robotics/wire"
)

// walk reads a sequence of fields and passes each one to visit, until the
// first error of the sequence or of visit.
func walk(b string, visit func(number int, content string) api.Errno) api.Errno {
	in := wire.NewReader(b)
	for before := 0; in.Left() > 0; {
		number := in.Small(math.MaxInt32)
		if e := in.Err(); e != api.OK {
			return e
		}
		if number <= before {
			return api.ErrFormat
		}
		content, e := readContent(in)
		if e != api.OK {
			return e
		}
		if e := visit(number, content); e != api.OK {
			return e
		}
		before = number
	}
	return api.OK
}

// readContent reads a length and a content of so many bytes.
func readContent(in *wire.Reader) (string, api.Errno) {
	content := in.Text(math.MaxInt)
	// A length that is no int is too long for Text, but here it is one more for
	// which too few bytes are left.
	if in.Err() == api.ErrLong {
		return "", api.ErrShort
	}
	return content, in.Err()
}

// isOmitted reports whether an encoding leaves a field out that would have this
// content.
func isOmitted(f api.Field, content string) bool {
	return !f.Optional && content == zeroContent(f.Type)
}

// zeroContent returns the content of the zero value of a type, and of no other
// of its values.
func zeroContent(t api.Type) string {
	if t.Kind == api.KText || t.Kind == api.KStruct {
		return ""
	}
	return "\x00"
}
