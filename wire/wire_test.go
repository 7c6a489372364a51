package wire_test

import (
	"encoding/binary"
	"math/bits"
	"strings"
	"testing"

	"robotics/wire"
)

// P4.1

func TestUintExamples(t *testing.T) {
	for _, x := range []struct {
		n    uint64
		want string
	}{
		{0, "\x00"},
		{1, "\x01"},
		{127, "\x7f"},
		{128, "\x80\x01"},
		{129, "\x81\x01"},
		{255, "\xff\x01"},
		{256, "\x80\x02"},
		{300, "\xac\x02"},
		{16383, "\xff\x7f"},
		{16384, "\x80\x80\x01"},
		{1<<32 - 1, "\xff\xff\xff\xff\x0f"},
		{1 << 32, "\x80\x80\x80\x80\x10"},
		{1<<56 - 1, strings.Repeat("\xff", 7) + "\x7f"},
		{1 << 56, strings.Repeat("\x80", 8) + "\x01"},
		{1<<63 - 1, strings.Repeat("\xff", 8) + "\x7f"},
		{1 << 63, strings.Repeat("\x80", 9) + "\x01"},
		{greatest, nine() + "\x01"},
	} {
		if got := wire.Uint(x.n); got != x.want {
			t.Errorf("Uint(%d) = %q, want %q", x.n, got, x.want)
		}
	}
}

func TestUint(t *testing.T) {
	for _, n := range numbers() {
		if got, want := wire.Uint(n), string(binary.AppendUvarint(nil, n)); got != want {
			t.Errorf("Uint(%d) = %q, want %q", n, got, want)
		}
	}
}

// A varint has as many groups as the number has, the first with its least bits,
// and only the last without the high bit.
func TestUintGroups(t *testing.T) {
	for _, n := range numbers() {
		got := wire.Uint(n)
		if want := max(1, (bits.Len64(n)+6)/7); len(got) != want {
			t.Errorf("Uint(%d) has %d bytes, want %d", n, len(got), want)
		}
		for i := range len(got) {
			if got[i]&127 != byte(n>>(7*i))&127 {
				t.Errorf("byte %d of Uint(%d) is %d", i, n, got[i])
			}
			if (got[i] >= 128) != (i < len(got)-1) {
				t.Errorf("the high bit of byte %d of Uint(%d): %q", i, n, got)
			}
		}
	}
}

func TestIntExamples(t *testing.T) {
	for _, x := range []struct {
		n    int64
		want string
	}{
		{0, "\x00"},
		{-1, "\x01"},
		{1, "\x02"},
		{-2, "\x03"},
		{2, "\x04"},
		{-3, "\x05"},
		{63, "\x7e"},
		{-64, "\x7f"},
		{64, "\x80\x01"},
		{-65, "\x81\x01"},
		{150, "\xac\x02"},
		{1<<31 - 1, "\xfe\xff\xff\xff\x0f"},
		{-1 << 31, "\xff\xff\xff\xff\x0f"},
		{most - 1, "\xfc" + strings.Repeat("\xff", 8) + "\x01"},
		{most, "\xfe" + strings.Repeat("\xff", 8) + "\x01"},
		{least + 1, "\xfd" + strings.Repeat("\xff", 8) + "\x01"},
		{least, nine() + "\x01"},
	} {
		if got := wire.Int(x.n); got != x.want {
			t.Errorf("Int(%d) = %q, want %q", x.n, got, x.want)
		}
	}
}

func TestInt(t *testing.T) {
	for _, n := range integers() {
		if got, want := wire.Int(n), string(binary.AppendUvarint(nil, zigzag(n))); got != want {
			t.Errorf("Int(%d) = %q, want %q", n, got, want)
		}
	}
}

func TestTextExamples(t *testing.T) {
	for _, x := range []struct{ s, want string }{
		{"", "\x00"},
		{"a", "\x01a"},
		{"ab", "\x02ab"},
		{"\x00", "\x01\x00"},
		{"\xff\x80", "\x02\xff\x80"},
		{"\u00e4", "\x02\xc3\xa4"}, // the length counts bytes, not characters
		{strings.Repeat("x", 127), "\x7f" + strings.Repeat("x", 127)},
		{strings.Repeat("x", 128), "\x80\x01" + strings.Repeat("x", 128)},
		{strings.Repeat("x", 300), "\xac\x02" + strings.Repeat("x", 300)},
		{strings.Repeat("x", 16384), "\x80\x80\x01" + strings.Repeat("x", 16384)},
	} {
		if got := wire.Text(x.s); got != x.want {
			t.Errorf("Text(%q) = %q, want %q", x.s, got, x.want)
		}
	}
}

func TestText(t *testing.T) {
	for _, s := range texts() {
		if got, want := wire.Text(s), string(binary.AppendUvarint(nil, uint64(len(s))))+s; got != want {
			t.Errorf("Text(%q) = %q", s, got)
		}
	}
}
