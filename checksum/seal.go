package checksum

import "robotics/api"

const sumBytes = 4

// Seal returns s with its checksum.
func Seal(s string) string {
	sum := bytesOf(uint64(Crc(s)))
	return string(sum[:sumBytes]) + s
}

// Open returns the text of a sealed string.
func Open(s string) (string, api.Errno) {
	if len(s) < sumBytes {
		return "", api.ErrShort
	}
	text := s[sumBytes:]
	if Seal(text) != s {
		return "", api.ErrChecksum
	}
	return text, api.OK
}
