package wire_test

import (
	"math/rand"
	"strings"
	"testing"

	"robotics/api"
	"robotics/wire"
)

// P4.2

// reading is what reading a varint of s yields, and how many bytes follow it.
type reading struct {
	s     string
	n     uint64
	after int
	e     api.Errno
}

func readings() []reading {
	high := strings.Repeat("\x80", 9)
	return []reading{
		{s: "\x00"},
		{s: "\x01", n: 1},
		{s: "\x7f", n: 127},
		{s: "\x80\x01", n: 128},
		{s: "\xac\x02", n: 300},
		{s: "\x80\x80\x01", n: 16384},
		{s: nine()[1:] + "\x7f", n: 1<<63 - 1},
		{s: high + "\x01", n: 1 << 63},
		{s: nine() + "\x01", n: greatest},
		// What follows is not examined.
		{s: "\x00\x00", n: 0, after: 1},
		{s: "\x05\x80\x00", n: 5, after: 2},
		{s: "\x80\x01\xff\xff", n: 128, after: 2},
		{s: nine() + "\x01\xff", n: greatest, after: 1},
		// The string ends too early.
		{s: "", e: api.ErrShort},
		{s: "\x80", e: api.ErrShort},
		{s: "\xff", e: api.ErrShort},
		{s: "\xac\x82", e: api.ErrShort},
		{s: nine()[1:], e: api.ErrShort},
		{s: nine(), e: api.ErrShort},
		{s: high, e: api.ErrShort},
		// The encoding is not the shortest one.
		{s: "\x80\x00", e: api.ErrFormat},
		{s: "\x81\x00", e: api.ErrFormat},
		{s: "\xff\x00", e: api.ErrFormat},
		{s: "\x80\x80\x00", e: api.ErrFormat},
		{s: "\xff\xff\x00\x01", e: api.ErrFormat},
		{s: nine()[1:] + "\x00", e: api.ErrFormat},
		{s: nine() + "\x00", e: api.ErrFormat},
		{s: high + "\x00", e: api.ErrFormat},
		// The number does not fit; an eleventh byte is not examined.
		{s: nine() + "\x02", e: api.ErrFormat},
		{s: nine() + "\x7f", e: api.ErrFormat},
		{s: nine() + "\x80", e: api.ErrFormat},
		{s: nine() + "\x81\x00", e: api.ErrFormat},
		{s: nine() + "\xff\x01", e: api.ErrFormat},
		{s: high + "\x02", e: api.ErrFormat},
		{s: high + "\x80\x01", e: api.ErrFormat},
		{s: strings.Repeat("\x80", 11), e: api.ErrFormat},
		{s: strings.Repeat("\xff", 11), e: api.ErrFormat},
		{s: strings.Repeat("\xff", 5000), e: api.ErrFormat},
	}
}

func TestVarintsAreRead(t *testing.T) {
	for _, x := range readings() {
		r := wire.NewReader(x.s)
		left, end := x.after, x.e
		if x.e != api.OK {
			left = len(x.s)
		} else if x.after > 0 {
			end = api.ErrLong
		}
		if n := r.Uint(); n != x.n || r.Err() != x.e || r.End() != end || r.Left() != left {
			t.Errorf("Uint of %q = %d, %v, %v, %d bytes left", x.s, n, r.Err(), r.End(), r.Left())
		}
	}
}

// The errors of varints are those of all methods, whatever the limit is.
func TestMalformedVarints(t *testing.T) {
	for _, x := range readings() {
		if x.e == api.OK {
			continue
		}
		for _, o := range ops() {
			expect(t, wire.NewReader(x.s), o, outcome{left: len(x.s), err: x.e, end: x.e})
		}
	}
}

func TestIntegersAreRead(t *testing.T) {
	for s, want := range map[string]int64{
		"\x00": 0, "\x01": -1, "\x02": 1, "\x03": -2, "\x04": 2, "\x7e": 63, "\x7f": -64, "\x80\x01": 64, "\x81\x01": -65,
		"\xfe" + nine()[1:] + "\x01": most, nine() + "\x01": least, "\xfd" + nine()[1:] + "\x01": least + 1,
	} {
		expect(t, wire.NewReader(s), op{kind: readInt}, outcome{integer: want})
	}
}

func TestSmallLimits(t *testing.T) {
	for _, x := range []struct {
		s    string
		most int
		want int
		e    api.Errno
	}{
		{s: "\x00", most: 0},
		{s: "\x00", most: 1},
		{s: "\x05", most: 6, want: 5},
		{s: "\x05", most: 5, want: 5},
		{s: "\x05", most: 4, e: api.ErrRange},
		{s: "\x05", most: 0, e: api.ErrRange},
		{s: "\x01", most: 0, e: api.ErrRange},
		{s: "\xac\x02", most: 300, want: 300},
		{s: "\xac\x02", most: 299, e: api.ErrRange},
		{s: nine()[1:] + "\x7f", most: most, want: most},
		{s: nine()[1:] + "\x7f", most: most - 1, e: api.ErrRange},
		{s: strings.Repeat("\x80", 9) + "\x01", most: most, e: api.ErrRange},
		{s: nine() + "\x01", most: most, e: api.ErrRange},
		// Every number is greater than a negative limit.
		{s: "\x00", most: -1, e: api.ErrRange},
		{s: "\x01", most: -1, e: api.ErrRange},
		{s: "\x00", most: least, e: api.ErrRange},
		{s: nine() + "\x01", most: -1, e: api.ErrRange},
		// The errors of the varint come first.
		{s: "", most: -1, e: api.ErrShort},
		{s: "\x85", most: 4, e: api.ErrShort},
		{s: "\x85\x00", most: 4, e: api.ErrFormat},
		{s: nine() + "\x02", most: -1, e: api.ErrFormat},
	} {
		want := outcome{small: x.want, err: x.e, end: x.e}
		if x.e != api.OK {
			want.left = len(x.s)
		}
		expect(t, wire.NewReader(x.s), op{readSmall, x.most}, want)
	}
}

func TestTextLimits(t *testing.T) {
	long := strings.Repeat("x", 128)
	for _, x := range []struct {
		s    string
		most int
		want string
		left int
		e    api.Errno
	}{
		{s: "\x00", most: 0},
		{s: "\x00", most: 9},
		{s: "\x00ab", most: 0, left: 2},
		{s: "\x02ab", most: 3, want: "ab"},
		{s: "\x02ab", most: 2, want: "ab"},
		{s: "\x02abc", most: 2, want: "ab", left: 1},
		{s: "\x02\x80\x00", most: 2, want: "\x80\x00"},
		{s: "\x80\x01" + long, most: 128, want: long},
		{s: "\x80\x01" + long, most: most, want: long},
		{s: "\x80\x01" + long, most: 127, left: 130, e: api.ErrLong},
		{s: "\x02ab", most: 1, left: 3, e: api.ErrLong},
		{s: "\x01a", most: 0, left: 2, e: api.ErrLong},
		// Every length is greater than a negative limit.
		{s: "\x00", most: -1, left: 1, e: api.ErrLong},
		{s: "\x02ab", most: -1, left: 3, e: api.ErrLong},
		{s: "\x00", most: least, left: 1, e: api.ErrLong},
		// Fewer bytes are left.
		{s: "\x03ab", most: 10, left: 3, e: api.ErrShort},
		{s: "\x03ab", most: 3, left: 3, e: api.ErrShort},
		{s: "\x01", most: 1, left: 1, e: api.ErrShort},
		{s: "\x80\x01" + long[1:], most: 128, left: 129, e: api.ErrShort},
		{s: nine()[1:] + "\x7fabc", most: most, left: 12, e: api.ErrShort},
		// The limit comes before what is left.
		{s: "\x03ab", most: 2, left: 3, e: api.ErrLong},
		{s: "\x03ab", most: -1, left: 3, e: api.ErrLong},
		{s: nine() + "\x01abc", most: most, left: 13, e: api.ErrLong},
		{s: strings.Repeat("\x80", 9) + "\x01abc", most: most, left: 13, e: api.ErrLong},
		{s: nine()[1:] + "\x7fabc", most: most - 1, left: 12, e: api.ErrLong},
		// The errors of the varint come first.
		{s: "", most: -1, e: api.ErrShort},
		{s: "\x83", most: 2, left: 1, e: api.ErrShort},
		{s: "\x83\x00abc", most: 2, left: 5, e: api.ErrFormat},
	} {
		want := outcome{text: x.want, left: x.left, err: x.e, end: x.e}
		if x.e == api.OK && x.left > 0 {
			want.end = api.ErrLong
		}
		expect(t, wire.NewReader(x.s), op{readText, x.most}, want)
	}
}

func TestNewReaderHasReadNothing(t *testing.T) {
	for s, end := range map[string]api.Errno{"": api.OK, "\x00": api.ErrLong, "\x80": api.ErrLong, "abc": api.ErrLong} {
		if r := wire.NewReader(s); r.Left() != len(s) || r.Err() != api.OK || r.End() != end {
			t.Errorf("a new reader of %q: %d bytes left, %v, %v", s, r.Left(), r.Err(), r.End())
		}
	}
}

// End says that bytes are left, but it is no error of the reader: reads go on.
func TestEndIsNotRemembered(t *testing.T) {
	r := wire.NewReader("\x07\x02ab\x03")
	expect(t, r, op{kind: readUint}, outcome{number: 7, left: 4, end: api.ErrLong})
	expect(t, r, op{readText, 2}, outcome{text: "ab", left: 1, end: api.ErrLong})
	expect(t, r, op{kind: readInt}, outcome{integer: -2})
	expect(t, r, op{kind: readUint}, outcome{err: api.ErrShort, end: api.ErrShort})
}

// failure is a read of s, behind its first byte, that fails.
type failure struct {
	s string
	o op
	e api.Errno
}

// failures returns failures; after the first ones another read would succeed.
func failures() []failure {
	return []failure{
		{"\x09\x05\x00", op{readSmall, 4}, api.ErrRange},
		{"\x09\x03abc", op{readText, 2}, api.ErrLong},
		{"\x09\x03ab", op{readText, 3}, api.ErrShort},
		{"\x09\x00", op{readText, -1}, api.ErrLong},
		{"\x09\x80\x00\x00", op{kind: readUint}, api.ErrFormat},
		{"\x09\x80\x00\x00", op{kind: readInt}, api.ErrFormat},
		{"\x09\x80", op{kind: readUint}, api.ErrShort},
		{"\x09", op{kind: readInt}, api.ErrShort},
		{"\x09", op{readSmall, 9}, api.ErrShort},
		{"\x09" + nine() + "\x02", op{readSmall, 9}, api.ErrFormat},
	}
}

func TestTheFirstErrorStays(t *testing.T) {
	for _, x := range failures() {
		for _, first := range ops() {
			r := wire.NewReader(x.s)
			stopped := outcome{left: len(x.s) - 1, err: x.e, end: x.e}
			expect(t, r, op{kind: readUint}, outcome{number: 9, left: len(x.s) - 1, end: endWith(len(x.s) - 1)})
			expect(t, r, x.o, stopped)
			expect(t, r, first, stopped)
			for _, o := range ops() {
				expect(t, r, o, stopped)
			}
		}
	}
}

// endWith returns what End returns without an error if so many bytes are left.
func endWith(left int) api.Errno {
	if left > 0 {
		return api.ErrLong
	}
	return api.OK
}

// Single reads of all inputs, as the oracle does them.
func TestReads(t *testing.T) {
	all := ops()
	forInputs(func(s string) {
		for _, o := range all {
			expect(t, wire.NewReader(s), o, o.onModel(&model{s: s}))
		}
	})
}

// Sequences of reads, as the oracle does them.
func TestSequencesOfReads(t *testing.T) {
	r := rand.New(rand.NewSource(3))
	for range 50000 {
		s := randomInput(r, 60)
		reader, m := wire.NewReader(s), &model{s: s}
		for range 12 {
			o := randomOp(r)
			expect(t, reader, o, o.onModel(m))
		}
	}
}
