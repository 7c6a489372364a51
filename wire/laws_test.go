package wire_test

import (
	"math/rand"
	"strings"
	"testing"

	"robotics/api"
	"robotics/wire"
)

// P4.3

func TestNumbersAreReadBack(t *testing.T) {
	for _, n := range numbers() {
		expect(t, wire.NewReader(wire.Uint(n)), op{kind: readUint}, outcome{number: n})
		if n <= most {
			expect(t, wire.NewReader(wire.Uint(n)), op{readSmall, int(n)}, outcome{small: int(n)})
		}
	}
	for _, n := range integers() {
		expect(t, wire.NewReader(wire.Int(n)), op{kind: readInt}, outcome{integer: n})
	}
}

func TestTextsAreReadBack(t *testing.T) {
	for _, s := range texts() {
		expect(t, wire.NewReader(wire.Text(s)), op{readText, len(s)}, outcome{text: s})
		expect(t, wire.NewReader(wire.Text(s)), op{readText, most}, outcome{text: s})
	}
}

// item is a value with the method that reads it.
type item struct {
	o    op
	want outcome
}

func randomItem(r *rand.Rand) item {
	switch kind := r.Intn(kinds); kind {
	case readUint:
		return item{op{kind: kind}, outcome{number: randomNumber(r)}}
	case readInt:
		return item{op{kind: kind}, outcome{integer: int64(randomNumber(r))}}
	case readSmall:
		n := int(randomNumber(r) >> 1)
		return item{op{kind, n}, outcome{small: n}}
	default:
		s := randomText(r, 200)
		return item{op{kind, len(s)}, outcome{text: s}}
	}
}

func TestSequencesAreReadBack(t *testing.T) {
	r := rand.New(rand.NewSource(4))
	for range 3000 {
		items := make([]item, r.Intn(20))
		written := ""
		for i := range items {
			items[i] = randomItem(r)
			written += items[i].o.encoding(items[i].want)
		}
		reader := wire.NewReader(written)
		left := len(written)
		for _, x := range items {
			left -= len(x.o.encoding(x.want))
			x.want.left, x.want.end = left, endWith(left)
			expect(t, reader, x.o, x.want)
		}
		if e := reader.End(); e != api.OK {
			t.Errorf("the end of %q: %v", written, e)
		}
	}
}

// P4.4

func TestWhatIsAcceptedIsAnEncoding(t *testing.T) {
	all := ops()
	forInputs(func(s string) {
		for _, o := range all {
			got := o.on(wire.NewReader(s))
			if got.err != api.OK {
				continue
			}
			if read := s[:len(s)-got.left]; o.encoding(got) != read {
				t.Errorf("%+v of %q: read %q, but the encoding is %q", o, s, read, o.encoding(got))
			}
		}
	})
}

func TestSequencesThatAreAcceptedAreEncodings(t *testing.T) {
	r := rand.New(rand.NewSource(5))
	for range 30000 {
		s := randomInput(r, 60)
		reader := wire.NewReader(s)
		written := ""
		for range 12 {
			o := randomOp(r)
			got := o.on(reader)
			if got.err != api.OK {
				break
			}
			written += o.encoding(got)
		}
		if read := s[:len(s)-reader.Left()]; written != read {
			t.Errorf("of %q: read %q, but the encodings are %q", s, read, written)
		}
	}
}

// R1

// A Reader that no function returned only terminates and does not panic.
func TestPlainReaders(t *testing.T) {
	for _, o := range ops() {
		o.on(&wire.Reader{})
		o.on(new(wire.Reader))
	}
	var plain wire.Reader
	for _, o := range ops() {
		o.on(&plain)
	}
}

func TestLongInputs(t *testing.T) {
	for _, s := range []string{strings.Repeat("\x80", 1<<20), strings.Repeat("\x00", 1<<20), wire.Text(strings.Repeat("x", 1<<20))} {
		for _, o := range ops() {
			expect(t, wire.NewReader(s), o, o.onModel(&model{s: s}))
		}
	}
}

func TestRandomInputs(t *testing.T) {
	r := rand.New(rand.NewSource(6))
	for range 20000 {
		reader := wire.NewReader(randomText(r, 40))
		for range 50 {
			o := op{r.Intn(kinds), int(r.Uint64())}
			if got := o.on(reader); got.left < 0 || got.left > 40 {
				t.Errorf("%+v: %#v", o, got)
			}
		}
	}
}

// R3 and R7

// Readers of the same string do not know of each other.
func TestReadersAreIndependent(t *testing.T) {
	r := rand.New(rand.NewSource(7))
	for range 5000 {
		s := randomInput(r, 30)
		one, other := wire.NewReader(s), wire.NewReader(s)
		m, n := &model{s: s}, &model{s: s}
		for range 10 {
			o := randomOp(r)
			if r.Intn(2) == 0 {
				expect(t, one, o, o.onModel(m))
			} else {
				expect(t, other, o, o.onModel(n))
			}
		}
	}
}

// R4

func TestNilReaders(t *testing.T) {
	var none *wire.Reader
	want := outcome{err: api.ErrNone, end: api.ErrNone}
	for range 2 {
		for _, o := range ops() {
			expect(t, none, o, want)
		}
	}
	if none.Left() != 0 || none.Err() != api.ErrNone || none.End() != api.ErrNone {
		t.Errorf("a nil reader: %d bytes left, %v, %v", none.Left(), none.Err(), none.End())
	}
}
