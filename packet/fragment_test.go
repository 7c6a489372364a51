package packet_test

import (
	"math/rand"
	"slices"
	"testing"

	"robotics/api"
	"robotics/packet"
)

// P15.3

func TestSplit(t *testing.T) {
	for _, x := range []struct {
		s    string
		size int
		want []string
	}{
		{"hello", 2, []string{"he", "ll", "o"}}, {"hello", 1, []string{"h", "e", "l", "l", "o"}}, {"hello", 3, []string{"hel", "lo"}},
		{"hello", 4, []string{"hell", "o"}}, {"hello", 5, []string{"hello"}}, {"hello", 6, []string{"hello"}}, {"hello", api.MaxText, []string{"hello"}},
		{"", 1, []string{""}}, {"", 2, []string{""}}, {"", api.MaxText, []string{""}}, {"a", 1, []string{"a"}}, {"abcd", 2, []string{"ab", "cd"}},
		{"\u00e9\x00\xff", 1, []string{"\xc3", "\xa9", "\x00", "\xff"}}, // bytes, not characters
	} {
		for _, id := range []int{0, 1, 7, 1 << 32, api.MaxTime - 1, api.MaxTime} {
			var want []api.Fragment
			for i, data := range x.want {
				want = append(want, fragment(id, i, len(x.want), data))
			}
			if got, e := packet.Split(id, x.s, x.size); e != api.OK || !slices.Equal(got, want) {
				t.Errorf("Split(%d, %q, %d) = %v, %v, want %v", id, x.s, x.size, got, e, want)
			}
		}
	}
}

// splits checks the fragments of a string against what they are to be: as many
// as are needed, all but the last one of the full size.
func splits(t *testing.T, id int, s string, size int) {
	t.Helper()
	list, e := packet.Split(id, s, size)
	if len(s) > api.MaxFragment*size {
		if e != api.ErrLong || len(list) > 0 {
			t.Errorf("Split of %d bytes by %d: %d fragments, %v", len(s), size, len(list), e)
		}
		return
	}
	rest := s
	for i, f := range list {
		if f.Id != id || f.Index != i || f.Count != len(list) || !validFragment(f) || len(f.Data) > size || i < len(list)-1 && len(f.Data) < size {
			t.Errorf("Split of %d bytes by %d: fragment %d is %v", len(s), size, i, short(f))
		}
		if len(f.Data) > len(rest) || f.Data != rest[:len(f.Data)] || f.Data == "" && s != "" {
			t.Fatalf("Split of %d bytes by %d: fragment %d has the wrong data", len(s), size, i)
		}
		rest = rest[len(f.Data):]
	}
	if e != api.OK || rest != "" || len(list) == 0 {
		t.Errorf("Split of %d bytes by %d: %d bytes are left of %d fragments, %v", len(s), size, len(rest), len(list), e)
	}
}

func TestSplitLengths(t *testing.T) {
	r := rand.New(rand.NewSource(3))
	long := make([]byte, 64*api.MaxText+2)
	for i := range long {
		long[i] = byte(r.Intn(256))
	}
	for length := range 300 {
		for size := 1; size <= 80; size++ {
			splits(t, length+size, string(long[:length]), size)
		}
	}
	for _, size := range []int{1, 2, 3, 5, 64, 199, 200, 201, 1000, api.MaxText - 1, api.MaxText} {
		for _, count := range []int{1, 2, 3, 63, 64} {
			for _, length := range []int{count*size - 1, count * size, count*size + 1} {
				splits(t, 9, string(long[:length]), size)
			}
		}
	}
}

func TestSplitErrors(t *testing.T) {
	texts := []choice[string]{{"", api.OK}, {"a", api.OK}, {text(api.MaxFragment), api.OK}, {text(api.MaxFragment*api.MaxText + 1), api.ErrLong}}
	ids := []choice[int]{
		{least, api.ErrRange}, {-api.MaxTime, api.ErrRange}, {-1, api.ErrRange}, {0, api.OK}, {1, api.OK},
		{api.MaxTime, api.OK}, {api.MaxTime + 1, api.ErrRange}, {most, api.ErrRange},
	}
	sizes := []choice[int]{
		{least, api.ErrRange}, {-2, api.ErrRange}, {-1, api.ErrRange}, {0, api.ErrRange}, {1, api.OK}, {2, api.OK},
		{api.MaxText, api.OK}, {api.MaxText + 1, api.ErrRange}, {1 << 32, api.ErrRange}, {most, api.ErrRange},
	}
	for _, s := range texts {
		for _, id := range ids {
			for _, size := range sizes {
				list, e := packet.Split(id.argument, s.argument, size.argument)
				if want := firstError(id.e, size.e, s.e); e != want || (len(list) > 0) != (want == api.OK) {
					t.Errorf("Split(%d, %.9q, %d) = %d fragments, %v, want %v", id.argument, s.argument, size.argument, len(list), e, want)
				}
			}
		}
	}
	for _, x := range []struct{ length, size int }{{65, 1}, {66, 1}, {129, 2}, {12801, 200}, {256001, 4000}, {1 << 20, 4000}, {1 << 20, 1}} {
		if list, e := packet.Split(1, text(x.length), x.size); e != api.ErrLong || len(list) > 0 {
			t.Errorf("Split of %d bytes by %d: %d fragments, %v", x.length, x.size, len(list), e)
		}
	}
}

// choice is an argument with the error that it causes.
type choice[T any] struct {
	argument T
	e        api.Errno
}

// P15.4

// frames checks the encoding of a valid fragment, which is recovered from it.
func frames(t *testing.T, f api.Fragment) {
	t.Helper()
	s := packet.Frame(f)
	if s != sealed(contents(f)) {
		t.Errorf("Frame(%v) = %.60q", short(f), s)
	}
	unframes(t, s, f, api.OK)
}

// unframes checks what a string is the encoding of. With an error, it is the
// zero fragment.
func unframes(t *testing.T, s string, want api.Fragment, wantError api.Errno) {
	t.Helper()
	if f, e := packet.Unframe(s); f != want || e != wantError {
		t.Errorf("Unframe(%.60q) = %v, %v, want %v, %v", s, short(f), e, short(want), wantError)
	}
}

// refuses checks that a string is not the encoding of a fragment.
func refuses(t *testing.T, s string, want api.Errno) {
	t.Helper()
	unframes(t, s, api.Fragment{}, want)
}

func TestFrame(t *testing.T) {
	if got, want := packet.Frame(fragment(7, 1, 3, "ll")), sealed("\x07\x01\x03\x02ll"); got != want || len(got) != 10 {
		t.Errorf("%q, want %q", got, want)
	}
	if got, want := packet.Frame(fragment(300, 0, 1, "")), sealed("\xac\x02\x00\x01\x00"); got != want {
		t.Errorf("%q, want %q", got, want)
	}
	for _, id := range []int{0, 1, 127, 128, 1 << 32, api.MaxTime - 1, api.MaxTime} {
		for _, data := range []string{"", "a", "\x00\xff", "\u00e9", text(127), text(128), text(200), text(api.MaxText - 1), text(api.MaxText)} {
			for _, place := range [][2]int{{0, 1}, {0, 2}, {1, 2}, {0, 64}, {1, 64}, {62, 63}, {62, 64}, {63, 64}} {
				frames(t, fragment(id, place[0], place[1], data))
			}
		}
	}
	for count := 1; count <= api.MaxFragment; count++ {
		for index := range count {
			frames(t, fragment(1, index, count, "x"))
		}
	}
}

func TestFrameOfWhatIsNotValid(t *testing.T) {
	var list []api.Fragment
	for _, n := range append(numbersNear(), 3, 62, 66) {
		list = append(list, fragment(n, 0, 1, "a"), fragment(1, n, 2, "a"), fragment(1, n, 64, "a"), fragment(1, 0, n, "a"), fragment(1, 2, n, "a"), fragment(1, 63, n, "a"), fragment(1, n, n, "a"), fragment(1, n-1, n, "a"))
	}
	for _, n := range []int{0, api.MaxText - 1, api.MaxText, api.MaxText + 1, 2 * api.MaxText, 1 << 20} {
		list = append(list, fragment(1, 0, 1, text(n)))
	}
	refused := 0
	for _, f := range list {
		if validFragment(f) {
			frames(t, f)
		} else if s := packet.Frame(f); s != "" {
			t.Errorf("Frame(%v) = %.60q", short(f), s)
		} else {
			refused++
		}
	}
	if refused < 150 || refused > len(list)-50 {
		t.Errorf("%d of %d are refused", refused, len(list))
	}
	if s := packet.Frame(api.Fragment{}); s != "" {
		t.Errorf("%q", s)
	}
}

func TestUnframeChecksums(t *testing.T) {
	for _, s := range []string{"", "a", "ab", "abc", "\x00\x00\x00"} {
		refuses(t, s, api.ErrShort)
	}
	s := packet.Frame(fragment(7, 1, 3, "ll"))
	refuses(t, s[:3], api.ErrShort)
	for n := 4; n < len(s); n++ {
		refuses(t, s[:n], api.ErrChecksum)
	}
	refuses(t, s+"x", api.ErrChecksum)
	refuses(t, "abcd", api.ErrChecksum)
	for bit := range 8 * len(s) {
		b := []byte(s)
		b[bit/8] ^= 1 << (bit % 8)
		refuses(t, string(b), api.ErrChecksum)
	}
	// The contents are not read if the checksum is wrong.
	refuses(t, "abcd"+contents(fragment(api.MaxTime+1, 0, 1, "")), api.ErrChecksum)
}

func TestUnframeErrors(t *testing.T) {
	for _, x := range []struct {
		s string
		e api.Errno
	}{
		{"", api.ErrShort}, {"\x07", api.ErrShort}, {"\x07\x01", api.ErrShort}, {"\x07\x01\x03", api.ErrShort}, {"\x07\x01\x03\x02", api.ErrShort}, {"\x07\x01\x03\x02l", api.ErrShort},
		{"\x80", api.ErrShort}, {"\x07\x80", api.ErrShort}, {"\x87\x00\x01\x03\x02ll", api.ErrFormat}, {"\x07\x81\x00\x03\x02ll", api.ErrFormat},
		{"\x07\x01\x83\x00\x02ll", api.ErrFormat}, {"\x07\x01\x03\x82\x00ll", api.ErrFormat},
		{"\x07\x01\x03\x02llx", api.ErrLong}, {"\x07\x01\x03\x02ll\x00", api.ErrLong}, {"\x07\x01\x03\x00ll", api.ErrLong},
		// numbers that cannot be, whatever follows
		{"\x81\x80\x80\x80\x80\x20\x01\x03\x02ll", api.ErrRange}, {"\x81\x80\x80\x80\x80\x20", api.ErrRange}, {"\x07\x41\x42", api.ErrRange}, {"\x07\x41", api.ErrRange},
		{"\x07\x01\x41", api.ErrRange}, {"\x07\x01\x41\x02llx", api.ErrRange}, {"\x07\x01\x80\x01\x02ll", api.ErrRange}, {"\x07\x00\xff\xff\xff\xff\xff\xff\xff\xff\xff\x01", api.ErrRange},
		// data that is too long, also if it is not there
		{"\x07\x01\x03\xa1\x1f", api.ErrLong}, {"\x07\x01\x03\xa1\x1f" + text(api.MaxText+1), api.ErrLong}, {"\x07\x01\x03\xa0\x1f", api.ErrShort},
		{"\x07\x01\x03\xff\xff\xff\xff\xff\xff\xff\xff\xff\x01", api.ErrLong},
		// fragments that are not valid
		{"\x07\x03\x03\x02ll", api.ErrRange}, {"\x07\x04\x03\x02ll", api.ErrRange}, {"\x07\x00\x00\x02ll", api.ErrRange}, {"\x07\x01\x00\x02ll", api.ErrRange},
		{"\x07\x40\x40\x02ll", api.ErrRange}, {"\x07\x01\x01\x00", api.ErrRange}, {"\x00\x00\x00\x00", api.ErrRange},
		// such with bytes left, or too short
		{"\x07\x03\x03\x02llx", api.ErrLong}, {"\x07\x00\x00\x00\x00", api.ErrLong}, {"\x07\x03\x03\x02l", api.ErrShort}, {"\x07\x00\x00", api.ErrShort},
	} {
		refuses(t, sealed(x.s), x.e)
	}
	unframes(t, sealed("\x07\x3f\x40\x02ll"), fragment(7, 63, 64, "ll"), api.OK)
	unframes(t, sealed("\x80\x80\x80\x80\x80\x20\x00\x01\x00"), fragment(api.MaxTime, 0, 1, ""), api.OK)
	unframes(t, sealed("\x07\x01\x03\xa0\x1f"+text(api.MaxText)), fragment(7, 1, 3, text(api.MaxText)), api.OK)
}

// Contents of up to seven bytes that decide about fragments.
func TestUnframeShortStrings(t *testing.T) {
	accepted := 0
	check := func(s string) {
		want, e := modelUnframe(s)
		unframes(t, sealed(s), want, e)
		if e == api.OK {
			accepted++
			if packet.Frame(want) != sealed(s) {
				t.Errorf("%q is accepted, but the encoding is that of %v", s, want)
			}
		}
	}
	forShortStrings("", 7, "\x00\x01\x02\x80", check)
	forShortStrings("", 5, "\x00\x01\x3f\x40\x41\x7f\x80", check)
	if accepted < 500 {
		t.Errorf("%d accepted", accepted)
	}
}

func TestUnframeRandomStrings(t *testing.T) {
	r := rand.New(rand.NewSource(4))
	seen := map[api.Errno]int{}
	for range 100000 {
		count := 1 + r.Intn(64)
		f := fragment(r.Intn(api.MaxTime+1)>>r.Intn(41), r.Intn(count), count, randomText(r, 12))
		if r.Intn(20) == 0 {
			f.Data = text(api.MaxText + r.Intn(3))
		}
		s := contents(f)
		if r.Intn(3) > 0 {
			s = damagedString(r, s)
		}
		want, e := modelUnframe(s)
		unframes(t, sealed(s), want, e)
		if e == api.OK {
			frames(t, want)
		}
		seen[e]++
	}
	for _, e := range []api.Errno{api.OK, api.ErrShort, api.ErrFormat, api.ErrLong, api.ErrRange} {
		if seen[e] < 1000 {
			t.Errorf("%v: %d strings", e, seen[e])
		}
	}
}
