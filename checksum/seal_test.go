package checksum_test

import (
	"strings"
	"testing"

	"robotics/api"
	"robotics/checksum"
)

func zeros(length int) string {
	return strings.Repeat("\x00", length)
}

func ones(length int) string {
	return strings.Repeat("\xff", length)
}

// refused checks that Open returns the error and no text.
func refused(t *testing.T, s string, want api.Errno) {
	t.Helper()
	if text, e := checksum.Open(s); text != "" || e != want {
		t.Errorf("Open(%#v) = %#v, %v, want %v", s, text, e, want)
	}
}

// P5.4

func TestSealExamples(t *testing.T) {
	for s, want := range map[string]string{
		"":          "\x00\x00\x00\x00",
		"a":         "\x30\x43\xd0\xc1a",
		"\xff":      "\x00\x00\x00\xff\xff",
		"123456789": "\x83\x92\x06\xe3123456789",
	} {
		if got := checksum.Seal(s); got != want {
			t.Errorf("Seal(%q) = %q, want %q", s, got, want)
		}
	}
}

func TestSeal(t *testing.T) {
	forTexts(func(s string) {
		if got, want := checksum.Seal(s), sealed(s); got != want {
			t.Errorf("Seal(%#v) = %#v, want %#v", s, got, want)
		}
	})
}

// P5.5

func TestOpenExamples(t *testing.T) {
	for _, x := range []struct {
		s, want string
	}{
		{"\x00\x00\x00\x00", ""},
		{"\x30\x43\xd0\xc1a", "a"},
		{"\x00\x00\x00\xff\xff", "\xff"},
		{"\xb7\x3f\x4b\x36abc", "abc"},
		{"\x83\x92\x06\xe3123456789", "123456789"},
		{sealed(sealed("abc")), sealed("abc")},
	} {
		if got, e := checksum.Open(x.s); got != x.want || e != api.OK {
			t.Errorf("Open(%q) = %q, %v, want %q", x.s, got, e, x.want)
		}
	}
}

func TestOpenOfTooFewBytes(t *testing.T) {
	for _, s := range []string{"", "a", "abc", "\x00", "\x00\x00", "\x00\x00\x00", "\xff\xff\xff", replacement, sealed("abc")[:3]} {
		refused(t, s, api.ErrShort)
	}
	forShortTexts("", 2, allBytes(), func(s string) { refused(t, s, api.ErrShort) })
	forShortTexts("", 3, "\x00\x01a\x80\xff", func(s string) { refused(t, s, api.ErrShort) })
}

// Four bytes are the sealed empty string, if they are all zero.
func TestOpenOfFourBytes(t *testing.T) {
	forShortTexts("", 4, "\x00\x01\x20\x7f\x80\xff", func(s string) {
		if len(s) == 4 && s != zeros(4) {
			refused(t, s, api.ErrChecksum)
		}
	})
	for bit := range 32 {
		refused(t, flipped(zeros(4), bit), api.ErrChecksum)
	}
}

func TestOpenOfOtherChecksums(t *testing.T) {
	for _, s := range []string{
		"\x30\x43\xd0\xc1b",           // of another text
		"\x30\x43\xd0\xc1",            // without the text
		"\x30\x43\xd0\xc1aa",          // with more
		"\xc1\xd0\x43\x30a",           // in the opposite order
		"\xcf\xbc\x2f\x3ea",           // not complemented
		"a\x30\x43\xd0\xc1",           // behind the text
		"\x00\x00\x00\x00a",           // no checksum
		"\xff\xff\xff\xff",            // the complement of that of the empty string
		"\xb7\x3f\x4b\x36abd",         // the last byte replaced
		"\xb7\x3f\x4b\x36ab",          // the last byte missing
		"\x83\x92\x06\xe3123456798",   // two bytes exchanged
		" " + sealed("abc"),           // moved
		sealed("abc") + sealed("abc"), // more behind it
	} {
		refused(t, s, api.ErrChecksum)
	}
}

// Whether a string is accepted, and as what, is as the oracle seals strings.
func TestOpen(t *testing.T) {
	check := func(s string) {
		want, e := "", api.ErrShort
		if len(s) >= 4 {
			want, e = s[4:], api.OK
			if sealed(want) != s {
				want, e = "", api.ErrChecksum
			}
		}
		if got, err := checksum.Open(s); got != want || err != e {
			t.Errorf("Open(%#v) = %#v, %v, want %#v, %v", s, got, err, want, e)
		}
	}
	forTexts(func(s string) {
		check(s)
		check(sealed(s))
		check(sealed(s)[1:])
		check(sealed(s) + "\x00")
	})
}

// flipped returns s with another bit of this number.
func flipped(s string, bit int) string {
	changed := []byte(s)
	changed[bit/8] ^= 1 << (bit % 8)
	return string(changed)
}
