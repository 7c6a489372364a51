package packet_test

import (
	"math/rand"
	"testing"

	"robotics/api"
	"robotics/packet"
)

// P15.2

func TestEncodings(t *testing.T) {
	for _, x := range []struct {
		p api.Packet
		s string
	}{
		{api.Packet{Kind: api.PkGap, From: 0, To: 1, Writer: 2, Reader: 3, Seq: 0, First: 1, Last: 4}, "\x04\x00\x01\x02\x03\x00\x01\x04\x00"},
		{sample(api.PkData), "\x01\x01\x02\x03\x04\x05\x09\x04load"},
		{sample(api.PkHeartbeat), "\x02\x01\x02\x03\x04\x06\x08\x09"},
		{sample(api.PkAck), "\x03\x01\x02\x03\x04\x06\x08\x09\x02\x06\x08"},
		{sample(api.PkGap), "\x04\x01\x02\x03\x04\x01\x06\x08\x09"},
		{sample(api.PkAnnounce), "\x05\x01\x02\x03\x04\x05\x09\x04load"},
		{api.Packet{Kind: api.PkAnnounce}, "\x05\x00\x00\x00\x00\x00\x00\x00"},
		{api.Packet{Kind: api.PkAck, Writer: 1, Reader: 1, First: 1}, "\x03\x00\x00\x01\x01\x01\x00\x00\x00"},
		{api.Packet{Kind: api.PkData, Writer: 128, Reader: 1 << 14, Seq: 300, At: 127}, "\x01\x00\x00\x80\x01\x80\x80\x01\xac\x02\x7f\x00"},
		{api.Packet{Kind: api.PkHeartbeat, Writer: maxId, Reader: 1, First: 1, Last: api.MaxTime}, "\x02\x00\x00\x80\x80\x80\x80\x04\x01\x01\x80\x80\x80\x80\x80\x20\x00"},
		{withPayload(sample(api.PkData), text(200)), "\x01\x01\x02\x03\x04\x05\x09\xc8\x01" + text(200)},
		{withMissing(sample(api.PkAck), 1, 999, 1, 127, 128, 999), "\x03\x01\x02\x03\x04\x01\xe7\x07\x09\x04\x01\x7f\x80\x01\xe7\x07"},
	} {
		if s, e := packet.Encode(x.p); s != x.s || e != api.OK {
			t.Errorf("Encode(%v) = %q, %v, want %q", brief(x.p), s, e, x.s)
		}
		decodes(t, x.s, x.p, api.OK)
		if s := modelEncode(x.p); s != x.s {
			t.Errorf("the oracle encodes %v as %q", brief(x.p), s)
		}
	}
}

// What is too short, and what is too long.
func TestDecodeLengths(t *testing.T) {
	for _, kind := range kinds() {
		s := modelEncode(sample(kind))
		for n := range len(s) {
			fails(t, s[:n], api.ErrShort)
		}
		for _, more := range []string{"\x00", "x", "\xff", s, text(5000)} {
			fails(t, s+more, api.ErrLong)
		}
	}
}

func TestDecodeKinds(t *testing.T) {
	for _, kind := range []string{"\x00", "\x06", "\x07", "\x7f", "\x80\x01", "\x80\x80\x80\x80\x80\x20"} {
		for _, rest := range []string{"", "\x00", "\x80", "\x80\x00", "\x00\x01\x02\x03\x00\x01\x04\x00", text(100)} {
			fails(t, kind+rest, api.ErrRange)
		}
	}
	fails(t, "", api.ErrShort)
	fails(t, "\x80", api.ErrShort)
	fails(t, "\x80\x00", api.ErrFormat)
	fails(t, "\x84\x00\x00\x01\x02\x03\x00\x01\x04\x00", api.ErrFormat)
	fails(t, "\xff\xff\xff\xff\xff\xff\xff\xff\xff\x02", api.ErrFormat)
	fails(t, "\xff\xff\xff\xff\xff\xff\xff\xff\xff\x01", api.ErrRange)
}

// Each number of each kind, in the encoding of a packet that may not be valid.
func TestDecodeNumbers(t *testing.T) {
	for _, kind := range kinds() {
		p := sample(kind)
		p.Missing = nil
		for _, field := range uses(kind) {
			if field == "Missing" || field == "Payload" {
				continue
			}
			low, high := limits(kind, field)
			for _, n := range append(numbersNear(), low, high, high+1) {
				q := with(p, field, n)
				s := modelEncode(q) // of a negative number, this is one of ten bytes
				if n >= low && n <= high {
					decodes(t, s, q, api.OK)
					continue
				}
				fails(t, s, api.ErrRange)
				// If it is at most MaxTime, other errors come first.
				if n >= 0 && n <= api.MaxTime {
					fails(t, s[:len(s)-1], api.ErrShort)
					fails(t, s+"x", api.ErrLong)
				} else if field != "At" || kind == api.PkData || kind == api.PkAck || kind == api.PkAnnounce {
					fails(t, s[:len(s)-1], api.ErrRange)
					fails(t, s+"x", api.ErrRange)
				}
			}
		}
	}
}

func TestDecodeMissing(t *testing.T) {
	start := modelEncode(sample(api.PkAck))[:8]
	for _, x := range []struct {
		s string
		e api.Errno
	}{
		{"\x00", api.OK}, {"\x01\x06", api.OK}, {"\x03\x06\x07\x08", api.OK},
		{"", api.ErrShort}, {"\x01", api.ErrShort}, {"\x02\x06", api.ErrShort}, {"\x20\x06", api.ErrShort}, {"\x02\x06\x80", api.ErrShort},
		{"\x00\x06", api.ErrLong}, {"\x01\x06\x07", api.ErrLong}, {"\x01\x05\x00", api.ErrLong}, {"\x02\x07\x06\x00", api.ErrLong},
		// more than 32 elements, which need not be there
		{"\x21", api.ErrRange}, {"\x21" + string(make([]byte, 33)), api.ErrRange}, {"\x7f", api.ErrRange}, {"\x80\x01", api.ErrRange},
		{"\xff\xff\xff\xff\xff\xff\xff\xff\xff\x01", api.ErrRange}, {"\x80\x80\x80\x80\x80\x80\x80\x80\x80\x01", api.ErrRange},
		{"\x20" + string(make([]byte, 32)), api.ErrFormat}, {"\x20" + string(make([]byte, 33)), api.ErrLong},
		// elements that are not of the list of a packet
		{"\x01\x05", api.ErrFormat}, {"\x01\x09", api.ErrFormat}, {"\x01\x00", api.ErrFormat}, {"\x02\x07\x06", api.ErrFormat}, {"\x02\x07\x07", api.ErrFormat},
		{"\x01\x80\x80\x80\x80\x80\x20", api.ErrFormat}, {"\x01\x81\x80\x80\x80\x80\x20", api.ErrRange},
		{"\x02\x81\x80\x80\x80\x80\x20", api.ErrRange}, {"\x02\x07\x81\x80\x80\x80\x80\x20", api.ErrRange},
		// no varints
		{"\x80\x00", api.ErrFormat}, {"\x01\x87\x00", api.ErrFormat}, {"\x81\x00\x06", api.ErrFormat},
	} {
		p, e := packet.Decode(start + x.s)
		if e != x.e || e == api.OK && modelEncode(p) != start+x.s || e != api.OK && !same(p, api.Packet{}) {
			t.Errorf("Decode of the list %q: %v, %v, want %v", x.s, p, e, x.e)
		}
	}
	for n := range 40 {
		p := withMissing(sample(api.PkAck), 6, 100, ascending(6, n)...)
		if n <= maxMissing {
			decodes(t, modelEncode(p), p, api.OK)
		} else {
			fails(t, modelEncode(p), api.ErrRange)
		}
	}
}

func TestDecodePayloads(t *testing.T) {
	for _, kind := range []int{api.PkData, api.PkAnnounce} {
		p := sample(kind)
		for _, n := range []int{0, 1, 127, 128, api.MaxPayload - 1, api.MaxPayload} {
			s := modelEncode(withPayload(p, text(n)))
			decodes(t, s, withPayload(p, text(n)), api.OK)
			fails(t, s[:len(s)-1], api.ErrShort)
			fails(t, s+"x", api.ErrLong)
		}
		for _, n := range []int{api.MaxPayload + 1, 2 * api.MaxPayload} {
			s := modelEncode(withPayload(p, text(n)))
			fails(t, s, api.ErrLong)
			fails(t, s[:len(s)-1], api.ErrLong)
			fails(t, s[:12], api.ErrLong)
		}
		// A number that is out of range is found after the payload.
		s := modelEncode(withPayload(with(p, "From", api.MaxNodes), text(api.MaxPayload+1)))
		fails(t, s, api.ErrLong)
	}
}

// All strings of up to six bytes that decide about packets, behind such as
// begin a packet.
func TestDecodeShortStrings(t *testing.T) {
	accepted := 0
	check := func(s string) {
		p, e := packet.Decode(s)
		want, wantError := modelDecode(s)
		if e != wantError || !same(p, want) {
			t.Errorf("Decode(%q) = %v, %v, want %v, %v", s, p, e, want, wantError)
		}
		if e == api.OK {
			accepted++
			if s2, e := packet.Encode(p); e != api.OK || s2 != s {
				t.Errorf("%q is accepted, but the encoding is %q, %v", s, s2, e)
			}
		}
	}
	all := make([]byte, 256)
	for i := range all {
		all[i] = byte(i)
	}
	forShortStrings("", 2, string(all), check)
	forShortStrings("", 4, "\x00\x01\x02\x03\x04\x05\x06\x80", check)
	for kind := range 7 {
		forShortStrings(string([]byte{byte(kind), 1, 1, 1, 2}), 6, "\x00\x01\x02\x80\x81", check)
		forShortStrings(string([]byte{byte(kind), 0, 0}), 5, "\x00\x01\x07\x08\x80", check)
		forShortStrings(string([]byte{byte(kind), 1, 1, 1, 2, 1, 2, 0}), 6, "\x00\x01\x02\x03\x80", check)
	}
	if accepted < 3000 {
		t.Errorf("%d accepted", accepted)
	}
}

func TestDecodeRandomStrings(t *testing.T) {
	r := rand.New(rand.NewSource(2))
	seen := map[api.Errno]int{}
	for range 200000 {
		p := randomPacket(r)
		if len(p.Payload) > 50 && r.Intn(4) > 0 {
			p.Payload = p.Payload[:50]
		}
		s := modelEncode(p)
		if r.Intn(2) == 0 {
			s = damagedString(r, s)
		}
		want, e := modelDecode(s)
		decodes(t, s, want, e)
		if e == api.OK && modelEncode(want) != s {
			t.Fatalf("%q is accepted", s)
		}
		seen[e]++
	}
	for _, e := range []api.Errno{api.OK, api.ErrShort, api.ErrFormat, api.ErrLong, api.ErrRange} {
		if seen[e] < 1000 {
			t.Errorf("%v: %d strings", e, seen[e])
		}
	}
}
