package checksum_test

import (
	"testing"

	"robotics/checksum"
)

// P5.1

func TestCrcExamples(t *testing.T) {
	for _, x := range []struct {
		s    string
		want uint32
	}{
		{"", 0},
		{"a", 0xc1d04330},
		{"abc", 0x364b3fb7},
		{"123456789", 0xe3069283},
		{"\x00", 0x527d5351},
		{"\xff", 0xff000000},
		{zeros(32), 0x8a9136aa}, // from RFC 3720
		{exclusiveOr(zeros(32), ones(32)), 0x62a8ab43},
		{allBytes()[:32], 0x46dd794e},
	} {
		if got := checksum.Crc(x.s); got != x.want {
			t.Errorf("Crc(%q) = %08x, want %08x", x.s, got, x.want)
		}
	}
}

func TestCrc(t *testing.T) {
	forTexts(func(s string) {
		if got, want := checksum.Crc(s), crc(s); got != want {
			t.Errorf("Crc(%#v) = %08x, want %08x", s, got, want)
		}
	})
}

func TestCrcAsDefined(t *testing.T) {
	for _, s := range specialTexts() {
		if len(s) > 2000 {
			s = s[:2000]
		}
		if got, want := checksum.Crc(s), definedCrc(s); got != want {
			t.Errorf("Crc(%#v) = %08x, want %08x", s, got, want)
		}
	}
}

// P5.2

func TestHashExamples(t *testing.T) {
	for _, x := range []struct {
		s    string
		want uint64
	}{
		{"", 0xcbf29ce484222325},
		{"a", 0xaf63dc4c8601ec8c},
		{"foobar", 0x85944171f73967e8},
		{"\x00", 0xaf63bd4c8601b7df},
		{"\xff", 0xaf64724c8602eb6e},
	} {
		if got := checksum.Hash(x.s); got != x.want {
			t.Errorf("Hash(%q) = %016x, want %016x", x.s, got, x.want)
		}
	}
}

func TestHash(t *testing.T) {
	forTexts(func(s string) {
		if got, want := checksum.Hash(s), hash(s); got != want {
			t.Errorf("Hash(%#v) = %016x, want %016x", s, got, want)
		}
	})
}

func TestHashAsDefined(t *testing.T) {
	for _, s := range specialTexts() {
		if len(s) > 2000 {
			s = s[:2000]
		}
		if got, want := checksum.Hash(s), definedHash(s); got != want {
			t.Errorf("Hash(%#v) = %016x, want %016x", s, got, want)
		}
	}
}

// P5.3

func TestChainExamples(t *testing.T) {
	for _, x := range []struct {
		prev uint64
		s    string
		of   string
	}{
		{0, "", "\x00\x00\x00\x00\x00\x00\x00\x00\x00\x00\x00\x00\x00\x00\x00\x00"},
		{greatest, "", "\xff\xff\xff\xff\xff\xff\xff\xff\x00\x00\x00\x00\x00\x00\x00\x00"},
		{0, "ab", "\x00\x00\x00\x00\x00\x00\x00\x00\x02\x00\x00\x00\x00\x00\x00\x00ab"},
		{0x201, "ab", "\x01\x02\x00\x00\x00\x00\x00\x00\x02\x00\x00\x00\x00\x00\x00\x00ab"},
		{0x0102030405060708, "\xff", "\x08\x07\x06\x05\x04\x03\x02\x01\x01\x00\x00\x00\x00\x00\x00\x00\xff"},
		{1 << 63, replacement, "\x00\x00\x00\x00\x00\x00\x00\x80\x03\x00\x00\x00\x00\x00\x00\x00" + replacement},
		{greatest, zeros(256), "\xff\xff\xff\xff\xff\xff\xff\xff\x00\x01\x00\x00\x00\x00\x00\x00" + zeros(256)},
		{1, zeros(70000), "\x01\x00\x00\x00\x00\x00\x00\x00\x70\x11\x01\x00\x00\x00\x00\x00" + zeros(70000)},
	} {
		if got, want := checksum.Chain(x.prev, x.s), hash(x.of); got != want {
			t.Errorf("Chain(%#x, %.20q) = %016x, want %016x", x.prev, x.s, got, want)
		}
	}
}

func TestChain(t *testing.T) {
	for _, prev := range numbers() {
		for _, s := range specialTexts() {
			if len(s) > 2000 {
				continue
			}
			if got, want := checksum.Chain(prev, s), hash(chained(prev, s)); got != want {
				t.Errorf("Chain(%#x, %#v) = %016x, want %016x", prev, s, got, want)
			}
		}
	}
	forTexts(func(s string) {
		for _, prev := range []uint64{0, greatest} {
			if got, want := checksum.Chain(prev, s), hash(chained(prev, s)); got != want {
				t.Errorf("Chain(%#x, %#v) = %016x, want %016x", prev, s, got, want)
			}
		}
	})
}

// A list is hashed by extending the hash by one record after the other.
func TestListsAreChained(t *testing.T) {
	records := []string{"", "a", "", "bc", replacement, "\xff", allBytes()}
	for _, start := range numbers() {
		got, want := start, start
		for _, s := range records {
			got, want = checksum.Chain(got, s), hash(chained(want, s))
		}
		if got != want {
			t.Errorf("the hash of the list from %#x on = %016x, want %016x", start, got, want)
		}
	}
}
