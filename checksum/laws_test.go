package checksum_test

import (
	"math/rand"
	"slices"
	"strings"
	"testing"

	"robotics/api"
	"robotics/checksum"
)

// burst returns a string of length zero bytes but for the pattern, whose
// least bit has the number start.
func burst(length, start int, pattern uint32) string {
	s := make([]byte, length)
	for k := range 32 {
		if pattern>>k&1 == 1 {
			s[(start+k)/8] |= 1 << ((start + k) % 8)
		}
	}
	return string(s)
}

// forBursts calls check with bursts in strings of this length, at every
// position and of every width that fits, from 1 to 32 bits.
func forBursts(r *rand.Rand, length int, check func(difference string)) {
	for start := range 8 * length {
		for width := 1; width <= 32 && start+width <= 8*length; width++ {
			ends, all := uint32(1)|1<<(width-1), uint32(1)<<width-1
			check(burst(length, start, ends))
			check(burst(length, start, all))
			check(burst(length, start, ends|r.Uint32()&all))
		}
	}
}

// P5.6

func TestBursts(t *testing.T) {
	r := rand.New(rand.NewSource(2))
	for _, length := range []int{1, 2, 3, 4, 5, 6, 7, 8, 9, 16, 33, 100} {
		for _, s := range []string{zeros(length), ones(length), string(randomBytes(r, length)), randomText(r, length)[:length]} {
			sum := checksum.Crc(s)
			forBursts(r, length, func(difference string) {
				if other := exclusiveOr(s, difference); checksum.Crc(other) == sum {
					t.Errorf("%#v and %#v have the checksum %08x", s, other, sum)
				}
			})
		}
	}
}

// All strings of up to two bytes differ from each other by bursts.
func TestShortStringsHaveDifferentChecksums(t *testing.T) {
	seen := map[uint32]string{}
	forShortTexts("", 2, allBytes(), func(s string) {
		if len(s) < 2 {
			return
		}
		sum := checksum.Crc(s)
		if other, ok := seen[sum]; ok {
			t.Errorf("%q and %q have the checksum %08x", s, other, sum)
		}
		seen[sum] = s
	})
}

// P5.7

func TestLinearity(t *testing.T) {
	check := func(a, b, c string) {
		sum := checksum.Crc(a) ^ checksum.Crc(b) ^ checksum.Crc(c)
		if got := checksum.Crc(exclusiveOr(a, b, c)); got != sum {
			t.Errorf("Crc of the exclusive or of %#v, %#v and %#v = %08x, want %08x", a, b, c, got, sum)
		}
	}
	r := rand.New(rand.NewSource(3))
	for length := range 200 {
		for range 10 {
			check(string(randomBytes(r, length)), string(randomBytes(r, length)), string(randomBytes(r, length)))
			check(randomText(r, length)[:length], randomText(r, length)[:length], randomText(r, length)[:length])
		}
		check(zeros(length), zeros(length), ones(length))
		check(zeros(length), ones(length), ones(length))
	}
	for i := range 256 {
		for k := range 256 {
			check(allBytes()[i:i+1], allBytes()[k:k+1], "\xef")
		}
	}
	check(replacement, "\xef\xbf\xff", "abc")
	check(strings.Repeat(replacement, 10000), zeros(30000), string(randomBytes(r, 30000)))
}

// P5.8

func TestSealedStringsAreOpened(t *testing.T) {
	forTexts(func(s string) {
		if got, e := checksum.Open(checksum.Seal(s)); got != s || e != api.OK {
			t.Errorf("Open(Seal(%#v)) = %#v, %v", s, got, e)
		}
	})
}

func TestWhatIsOpenedWasSealed(t *testing.T) {
	opened := 0
	check := func(s string) {
		if text, e := checksum.Open(s); e == api.OK {
			opened++
			if checksum.Seal(text) != s {
				t.Errorf("Seal(%#v) is not %#v", text, s)
			}
		}
	}
	forTexts(func(s string) {
		check(s)
		check(sealed(s))
	})
	if opened < 10000 {
		t.Errorf("only %d strings were opened", opened)
	}
}

func TestChangedChecksums(t *testing.T) {
	r := rand.New(rand.NewSource(4))
	for _, text := range []string{"", "a", "abc", replacement, "\xff", allBytes(), randomText(r, 50)} {
		s := checksum.Seal(text)
		for at := range 4 {
			for change := 1; change < 256; change++ {
				changed := []byte(s)
				changed[at] ^= byte(change)
				refused(t, string(changed), api.ErrChecksum)
			}
		}
		for range 5000 {
			if first := string(randomBytes(r, 4)); first != s[:4] {
				refused(t, first+text, api.ErrChecksum)
			}
		}
	}
}

func TestChangedTexts(t *testing.T) {
	r := rand.New(rand.NewSource(5))
	for _, text := range []string{"a", "ab", "abc", "abcd", "foobar", replacement, "\xff\xff\xff\xff\xff", randomText(r, 40)} {
		s := checksum.Seal(text)
		forBursts(r, len(text), func(difference string) {
			refused(t, exclusiveOr(s, zeros(4)+difference), api.ErrChecksum)
		})
	}
}

// P5.9

func TestHashesOfLastBytes(t *testing.T) {
	for _, start := range []string{"", "a", "\x00", "\xff", "\xef", "\xef\xbf", "\xc3", "\xf0\x9f\xa4", replacement, allBytes(), zeros(1000)} {
		before := checksum.Hash(start)
		seen := map[uint64]byte{}
		for _, b := range []byte(allBytes()) {
			h := checksum.Hash(start + string([]byte{b}))
			if other, ok := seen[h]; ok {
				t.Errorf("behind %#v, the bytes %d and %d have the hash %016x", start, b, other, h)
			}
			seen[h] = b
			if want := nextHash(before, b); h != want {
				t.Errorf("Hash of %#v and the byte %d = %016x, want %016x", start, b, h, want)
			}
		}
	}
}

func TestHashesAreExtended(t *testing.T) {
	forTexts(func(s string) {
		if s == "" || len(s) > 2000 {
			return
		}
		last := len(s) - 1
		if got, want := checksum.Hash(s), nextHash(checksum.Hash(s[:last]), s[last]); got != want {
			t.Errorf("Hash(%#v) = %016x, want %016x", s, got, want)
		}
	})
}

// P5.10

// chain returns the hash of the list from start on.
func chain(start uint64, list []string) uint64 {
	for _, s := range list {
		start = checksum.Chain(start, s)
	}
	return start
}

// forLists calls check with all lists of so many of the records.
func forLists(start []string, count int, records []string, check func(list []string)) {
	if count == 0 {
		check(start)
		return
	}
	for _, s := range records {
		forLists(append(slices.Clip(start), s), count-1, records, check)
	}
}

// None of these lists has the hash of another one, as no two of the strings
// that are hashed on the way have the same hash.
func TestListsHaveDifferentHashes(t *testing.T) {
	records := []string{"", "a", "b", "ab", "ba", "\x00", "\x00\x00", "\xff", replacement, "aba"}
	for _, start := range []uint64{0, 1, 0x201, 1 << 63, greatest} {
		for count := range 4 {
			seen := map[uint64][]string{}
			forLists(nil, count, records, func(list []string) {
				h := chain(start, list)
				if other, ok := seen[h]; ok {
					t.Errorf("from %#x on, %q and %q have the hash %016x", start, list, other, h)
				}
				seen[h] = list
			})
		}
	}
}

func TestChainsDependOnEverything(t *testing.T) {
	list := []string{"one", "two", "", "three", "\xff"}
	want := chain(7, list)
	for name, other := range map[string][]string{
		"exchanged":    {"two", "one", "", "three", "\xff"},
		"moved":        {"one", "two", "three", "", "\xff"},
		"changed":      {"one", "twa", "", "three", "\xff"},
		"cut":          {"on", "etwo", "", "three", "\xff"},
		"joined":       {"onetwo", "", "", "three", "\xff"},
		"replaced":     {"one", "two", "", "three", replacement},
		"changed last": {"one", "two", "", "three", "\xfe"},
		"without":      {"one", "two", "", "three"},
		"with":         {"one", "two", "", "three", "\xff", ""},
	} {
		if chain(7, other) == want {
			t.Errorf("the hash of the list that is %s is the same", name)
		}
	}
	for _, start := range numbers() {
		if start != 7 && chain(start, list) == want {
			t.Errorf("the hash of the list from %#x on is the same", start)
		}
	}
}

// R1

func TestAllArguments(t *testing.T) {
	r := rand.New(rand.NewSource(6))
	for range 20000 {
		s := string(randomBytes(r, r.Intn(40)))
		checksum.Crc(s)
		checksum.Hash(s)
		checksum.Chain(r.Uint64(), s)
		checksum.Seal(s)
		checksum.Open(s)
	}
	long := strings.Repeat(allBytes()+replacement, 1<<12)
	if got := checksum.Crc(long); got != crc(long) {
		t.Errorf("Crc of a long string = %08x, want %08x", got, crc(long))
	}
	if got := checksum.Hash(long); got != hash(long) {
		t.Errorf("Hash of a long string = %016x, want %016x", got, hash(long))
	}
	if got, e := checksum.Open(checksum.Seal(long)); got != long || e != api.OK {
		t.Errorf("a long string is not opened: %v", e)
	}
	if got := checksum.Chain(greatest, long); got != hash(chained(greatest, long)) {
		t.Errorf("Chain of a long string = %016x", got)
	}
}

// R3 and R7: nothing of a call is kept, so that a call between others has the
// results of a single one, and the strings stay as they are.
func TestCallsAreIndependent(t *testing.T) {
	text, s := "abc", checksum.Seal("abc")
	for _, other := range specialTexts() {
		checksum.Chain(9, other)
		checksum.Open(checksum.Seal(other))
		checksum.Open(other)
		if got := checksum.Seal(text); got != "\xb7\x3f\x4b\x36abc" || got != s || text != "abc" {
			t.Errorf("after %#v: Seal(%q) = %q", other, text, got)
		}
		if got, e := checksum.Open(s); got != "abc" || e != api.OK {
			t.Errorf("after %#v: Open = %q, %v", other, got, e)
		}
		if checksum.Hash("foobar") != 0x85944171f73967e8 || checksum.Chain(0x201, "ab") != hash(chained(0x201, "ab")) {
			t.Errorf("after %#v: another hash", other)
		}
	}
}
