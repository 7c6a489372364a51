package wire

import "robotics/api"

// Reader reads a string from left to right, until a read fails.
type Reader struct {
	left string    // from the position to the end
	err  api.Errno // the first error
}

// NewReader returns a reader of s.
func NewReader(s string) *Reader {
	return &Reader{left: s}
}

// Uint reads a varint.
func (r *Reader) Uint() uint64 {
	return read(r, cutVarint)
}

// Int reads a zigzag integer.
func (r *Reader) Int() int64 {
	return read(r, func(s string) (int64, string, api.Errno) {
		n, rest, e := cutVarint(s)
		return unzigzag(n), rest, e
	})
}

// Small reads a varint of at most most.
func (r *Reader) Small(most int) int {
	return read(r, func(s string) (int, string, api.Errno) {
		return cutSmall(s, most, api.ErrRange)
	})
}

// Text reads a string of at most most bytes.
func (r *Reader) Text(most int) string {
	return read(r, func(s string) (string, string, api.Errno) {
		length, rest, e := cutSmall(s, most, api.ErrLong)
		if e != api.OK {
			return "", "", e
		}
		if length > len(rest) {
			return "", "", api.ErrShort
		}
		return rest[:length], rest[length:], api.OK
	})
}

// Left returns the number of bytes that were not read.
func (r *Reader) Left() int {
	if r == nil {
		return 0
	}
	return len(r.left)
}

// End returns the first error, or ErrLong if bytes are left.
func (r *Reader) End() api.Errno {
	if e := r.Err(); e != api.OK {
		return e
	}
	if r.left != "" {
		return api.ErrLong
	}
	return api.OK
}

// Err returns the first error.
func (r *Reader) Err() api.Errno {
	if r == nil {
		return api.ErrNone
	}
	return r.err
}

// read returns what cut cuts off the string that is left, and moves the
// position past it. If cut fails, or a read before did, it returns the zero
// value, and the position stays.
func read[T any](r *Reader, cut func(s string) (T, string, api.Errno)) T {
	var zero T
	if r.Err() != api.OK {
		return zero
	}
	value, rest, e := cut(r.left)
	if e != api.OK {
		r.err = e
		return zero
	}
	r.left = rest
	return value
}

// cutVarint returns the number whose varint begins s, and what follows it.
func cutVarint(s string) (n uint64, rest string, e api.Errno) {
	for i := range len(s) {
		b := s[i]
		if i == longest-1 && b > 1 {
			return 0, "", api.ErrFormat
		}
		n |= uint64(b&^more) << (group * i)
		if b&more != 0 {
			continue
		}
		if b == 0 && i > 0 {
			return 0, "", api.ErrFormat
		}
		return n, s[i+1:], api.OK
	}
	return 0, "", api.ErrShort
}

// cutSmall does what cutVarint does; the error is above if the number is
// greater than most.
func cutSmall(s string, most int, above api.Errno) (n int, rest string, e api.Errno) {
	number, rest, e := cutVarint(s)
	if e != api.OK {
		return 0, "", e
	}
	// A negative most must not become a large number without a sign.
	if most < 0 || number > uint64(most) {
		return 0, "", above
	}
	return int(number), rest, api.OK
}
