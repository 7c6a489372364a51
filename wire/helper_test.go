package wire_test

import (
	"math/big"
	"math/rand"
	"strings"
	"testing"

	"robotics/api"
	"robotics/wire"
)

const (
	least    = -1 << 63
	most     = 1<<63 - 1
	greatest = 1<<64 - 1
)

// nine returns nine bytes 255, all of the greatest varints but their ends.
func nine() string {
	return strings.Repeat("\xff", 9)
}

// numbers returns numbers: small ones, those next to powers of 2, and random ones.
func numbers() []uint64 {
	all := []uint64{300, greatest - 1, greatest}
	for n := range uint64(1000) {
		all = append(all, n)
	}
	for k := range 64 {
		all = append(all, 1<<k-1, 1<<k, 1<<k+1)
	}
	r := rand.New(rand.NewSource(1))
	for range 5000 {
		all = append(all, randomNumber(r))
	}
	return all
}

// integers returns integers: small ones, those next to powers of 2, and random ones.
func integers() []int64 {
	all := []int64{least, most}
	for _, n := range numbers() {
		all = append(all, int64(n), -int64(n))
	}
	return all
}

// texts returns texts of the lengths at which their varints change, and some others.
func texts() []string {
	all := []string{"", "a", "ab", "\x00", "\x80", "\xff\xfe", "\u00e4\u20ac\U0001f916", "line\nfeed"}
	for _, n := range []int{3, 126, 127, 128, 129, 200, 255, 256, 300, 16383, 16384, 16385, 70000} {
		all = append(all, strings.Repeat("x", n), strings.Repeat("\x80\x00", n/2))
	}
	return all
}

// randomNumber returns a number of a random length.
func randomNumber(r *rand.Rand) uint64 {
	return r.Uint64() >> r.Intn(64)
}

// randomText returns a text of at most length bytes.
func randomText(r *rand.Rand, length int) string {
	s := make([]byte, r.Intn(length+1))
	for i := range s {
		s[i] = byte(r.Intn(256))
	}
	return string(s)
}

// randomInput returns up to length bytes, many of them such as decide about varints.
func randomInput(r *rand.Rand, length int) string {
	s := []byte(randomText(r, length))
	for i := range s {
		if r.Intn(3) > 0 {
			s[i] = "\x00\x01\x02\x03\x7f\x80\x81\xff"[r.Intn(8)]
		}
	}
	return string(s)
}

// forInputs calls check with strings to be read: all of up to two bytes, those
// of up to five bytes that decide about varints, those about ten bytes, and
// random ones.
func forInputs(check func(s string)) {
	forShortInputs("", 2, allBytes(), check)
	forShortInputs("", 5, "\x00\x01\x02\x7f\x80\x83\xff", check)
	for _, start := range []string{nine(), strings.Repeat("\x80", 9), nine()[1:], nine() + "\xff", nine() + "\x80"} {
		forShortInputs(start, 1, allBytes(), check)
		forShortInputs(start, 3, "\x00\x01\x02\x7f\x80\xff", check)
	}
	r := rand.New(rand.NewSource(2))
	for range 30000 {
		check(randomInput(r, 24))
	}
}

// forShortInputs calls check with start followed by at most left of the bytes.
func forShortInputs(start string, left int, bytes string, check func(s string)) {
	check(start)
	if left == 0 {
		return
	}
	for i := range len(bytes) {
		forShortInputs(start+bytes[i:i+1], left-1, bytes, check)
	}
}

func allBytes() string {
	all := make([]byte, 256)
	for i := range all {
		all[i] = byte(i)
	}
	return string(all)
}

// limits returns limits for Small and Text.
func limits() []int {
	return []int{least, -2, -1, 0, 1, 2, 3, 5, 127, 128, 300, 16384, 1 << 32, most - 1, most}
}

// zigzag is the oracle's zigzag number.
func zigzag(n int64) uint64 {
	z := new(big.Int).Mul(big.NewInt(n), big.NewInt(2))
	if n < 0 {
		z.Neg(z)
		z.Sub(z, big.NewInt(1))
	}
	return z.Uint64()
}

// unzigzag is the oracle's integer with a zigzag number.
func unzigzag(n uint64) int64 {
	z := new(big.Int).SetUint64(n)
	if n%2 == 1 {
		z.Add(z, big.NewInt(1))
		z.Neg(z)
	}
	return z.Div(z, big.NewInt(2)).Int64()
}

// model is the oracle's reader. Its fields are those that the chapter names.
type model struct {
	s   string
	at  int
	err api.Errno
}

// varint returns the number of the varint at the position, and its length.
func (m *model) varint() (uint64, int, api.Errno) {
	s := m.s[m.at:]
	last := 0
	for last < len(s) && s[last] >= 128 {
		last++
	}
	if last >= 10 || last == 9 && len(s) > 9 && s[9] > 1 {
		return 0, 0, api.ErrFormat
	}
	if last == len(s) {
		return 0, 0, api.ErrShort
	}
	if s[last] == 0 && last > 0 {
		return 0, 0, api.ErrFormat
	}
	n := new(big.Int)
	for i := last; i >= 0; i-- {
		n.Mul(n, big.NewInt(128))
		n.Add(n, big.NewInt(int64(s[i]%128)))
	}
	return n.Uint64(), last + 1, api.OK
}

// The methods that read.
const (
	readUint = iota
	readInt
	readSmall
	readText
	kinds
)

// op is a call of a method that reads.
type op struct{ kind, most int }

func ops() []op {
	all := []op{{kind: readUint}, {kind: readInt}}
	for _, n := range limits() {
		all = append(all, op{readSmall, n}, op{readText, n})
	}
	return all
}

func randomOp(r *rand.Rand) op {
	if r.Intn(3) == 0 {
		return op{r.Intn(kinds), limits()[r.Intn(len(limits()))]}
	}
	return op{r.Intn(kinds), r.Intn(400)}
}

// outcome is what a read returned, and what the reader said afterwards.
type outcome struct {
	number   uint64
	integer  int64
	small    int
	text     string
	left     int
	err, end api.Errno
}

// on calls the method of r.
func (o op) on(r *wire.Reader) outcome {
	var got outcome
	switch o.kind {
	case readUint:
		got.number = r.Uint()
	case readInt:
		got.integer = r.Int()
	case readSmall:
		got.small = r.Small(o.most)
	case readText:
		got.text = r.Text(o.most)
	}
	got.left, got.err, got.end = r.Left(), r.Err(), r.End()
	return got
}

// onModel does to m what the method does to a reader.
func (o op) onModel(m *model) outcome {
	got := outcome{}
	if m.err == api.OK {
		var length int
		if got, length = o.result(m); got.err == api.OK {
			m.at += length
		}
		m.err = got.err
	}
	got.left, got.err, got.end = len(m.s)-m.at, m.err, m.err
	if m.err == api.OK && got.left > 0 {
		got.end = api.ErrLong
	}
	return got
}

// result returns what the method reads at the position of m, and its length.
func (o op) result(m *model) (outcome, int) {
	n, length, e := m.varint()
	if e != api.OK {
		return outcome{err: e}, 0
	}
	above := o.most < 0 || new(big.Int).SetUint64(n).Cmp(big.NewInt(int64(o.most))) > 0
	switch o.kind {
	case readUint:
		return outcome{number: n}, length
	case readInt:
		return outcome{integer: unzigzag(n)}, length
	case readSmall:
		if above {
			return outcome{err: api.ErrRange}, 0
		}
		return outcome{small: int(n)}, length
	}
	if above {
		return outcome{err: api.ErrLong}, 0
	}
	rest := m.s[m.at+length:]
	if n > uint64(len(rest)) {
		return outcome{err: api.ErrShort}, 0
	}
	return outcome{text: rest[:n]}, length + int(n)
}

// encoding returns the encoding of what the method returned.
func (o op) encoding(got outcome) string {
	switch o.kind {
	case readUint:
		return wire.Uint(got.number)
	case readInt:
		return wire.Int(got.integer)
	case readSmall:
		return wire.Uint(uint64(got.small))
	}
	return wire.Text(got.text)
}

// expect calls the method of r and checks what can be seen of it.
func expect(t *testing.T, r *wire.Reader, o op, want outcome) {
	t.Helper()
	if got := o.on(r); got != want {
		t.Errorf("%+v: %#v, want %#v", o, got, want)
	}
}
