package checksum_test

import (
	"encoding/binary"
	"hash/crc32"
	"hash/fnv"
	"math/big"
	"math/rand"
	"strings"
)

const (
	greatest    = 1<<64 - 1
	replacement = "\xef\xbf\xbd" // the bytes of U+FFFD
)

// forTexts calls check with strings: all of up to two bytes, those of up to
// four bytes such as decide about characters, special ones, and random ones.
func forTexts(check func(s string)) {
	forShortTexts("", 2, allBytes(), check)
	forShortTexts("", 4, "\x00a\x80\xbd\xbf\xc3\xe2\xef\xf0\xff", check)
	for _, s := range specialTexts() {
		check(s)
	}
	r := rand.New(rand.NewSource(1))
	for range 3000 {
		check(randomText(r, r.Intn(100)))
	}
}

// forShortTexts calls check with start followed by at most left of the bytes.
func forShortTexts(start string, left int, bytes string, check func(s string)) {
	check(start)
	if left == 0 {
		return
	}
	for i := range len(bytes) {
		forShortTexts(start+bytes[i:i+1], left-1, bytes, check)
	}
}

// specialTexts returns strings of characters of all lengths, strings of bytes
// that are no UTF-8 text, strings with U+FFFD, and long ones.
func specialTexts() []string {
	all := []string{
		"", "a", "foobar", "123456789", "line\nfeed", "\x00\x00\x00",
		"\u007f\u0080\u07ff\u0800\uffff\U00010000\U0010ffff", // the ends of the lengths
		replacement, replacement[:2], replacement[:1], replacement[1:], replacement[2:],
		"a" + replacement + "b", replacement + replacement, replacement[:2] + replacement, replacement + "\xff" + replacement, "\xff" + replacement + "\xef\xbf",
		"\xe2\x82", "\xf0\x9f\xa4", "\xf0\x9f\xa4\x96\xf0\x9f\xa4", // cut off
		"\xed\xa0\x80", "\xed\xbf\xbf", "\xf4\x90\x80\x80", // numbers that are no characters
		"\xc0\x80", "\xc1\xbf", "\xe0\x80\x80", "\xf0\x80\x80\x80", // too long
		"\xf8\x88\x80\x80\x80", "\xfe\xff", "\x80\x80\x80",
		allBytes(), allBytes() + allBytes(),
	}
	for _, s := range []string{"\x00", "x", "\xff", replacement, "\U0001f916", "ab" + replacement[:2]} {
		all = append(all, strings.Repeat(s, 257), strings.Repeat(s, 30000))
	}
	return all
}

func allBytes() string {
	all := make([]byte, 256)
	for i := range all {
		all[i] = byte(i)
	}
	return string(all)
}

// randomText returns a string with about so many bytes, many of them in characters.
func randomText(r *rand.Rand, length int) string {
	var s strings.Builder
	for s.Len() < length {
		switch r.Intn(4) {
		case 0:
			s.WriteRune(rune(r.Intn(0x110000)))
		case 1:
			s.WriteString(replacement[r.Intn(3):])
		default:
			s.WriteByte(byte(r.Intn(256)))
		}
	}
	return s.String()
}

// randomBytes returns so many bytes.
func randomBytes(r *rand.Rand, length int) []byte {
	s := make([]byte, length)
	for i := range s {
		s[i] = byte(r.Intn(256))
	}
	return s
}

// numbers returns numbers with which chains begin.
func numbers() []uint64 {
	all := []uint64{0, 1, 2, 255, 256, 0x201, 0xcbf29ce484222325, 0x0102030405060708, 1<<63 - 1, 1 << 63, greatest - 1, greatest}
	for k := range 64 {
		all = append(all, 1<<k)
	}
	return all
}

// exclusiveOr returns the string whose bytes are the exclusive or of those of
// the strings, which have equal lengths.
func exclusiveOr(first string, others ...string) string {
	sum := []byte(first)
	for _, s := range others {
		for i := range sum {
			sum[i] ^= s[i]
		}
	}
	return string(sum)
}

// crc is the oracle's checksum.
func crc(s string) uint32 {
	return crc32.Checksum([]byte(s), crc32.MakeTable(crc32.Castagnoli))
}

// definedCrc is the checksum as the chapter defines it, with a register of
// single bits, the lowest one first.
func definedCrc(s string) uint32 {
	var register [32]bool
	for i := range register {
		register[i] = true
	}
	for i := range len(s) {
		for k := range 8 {
			register[k] = register[k] != (s[i]>>k&1 == 1)
		}
		for range 8 {
			out := register[0]
			copy(register[:], register[1:])
			register[31] = false
			for k := range register {
				register[k] = register[k] != (out && uint32(0x82f63b78)>>k&1 == 1)
			}
		}
	}
	sum := uint32(0)
	for k, bit := range register {
		if !bit {
			sum |= 1 << k
		}
	}
	return sum
}

// hash is the oracle's hash.
func hash(s string) uint64 {
	h := fnv.New64a()
	h.Write([]byte(s))
	return h.Sum64()
}

// definedHash is the hash as the chapter defines it, with numbers of any size.
func definedHash(s string) uint64 {
	h := new(big.Int).SetUint64(0xcbf29ce484222325)
	for i := range len(s) {
		h.SetUint64(nextHash(h.Uint64(), s[i]))
	}
	return h.Uint64()
}

// nextHash returns the hash of a string with the hash h and another byte.
func nextHash(h uint64, b byte) uint64 {
	n := new(big.Int).Xor(new(big.Int).SetUint64(h), big.NewInt(int64(b)))
	n.Mul(n, big.NewInt(0x100000001b3))
	return n.Mod(n, new(big.Int).Lsh(big.NewInt(1), 64)).Uint64()
}

// chained returns the string that Chain hashes.
func chained(prev uint64, s string) string {
	head := binary.LittleEndian.AppendUint64(nil, prev)
	return string(binary.LittleEndian.AppendUint64(head, uint64(len(s)))) + s
}

// sealed is the oracle's sealed string.
func sealed(s string) string {
	return string(binary.LittleEndian.AppendUint32(nil, crc(s))) + s
}
