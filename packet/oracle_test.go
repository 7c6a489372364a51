package packet_test

import (
	"encoding/binary"
	"hash/crc32"
	"math/rand"
	"reflect"
	"slices"
	"strings"

	"robotics/api"
	"robotics/wire"
)

// uses returns the fields that packets of a kind use beside it, in the order of
// the encoding, or nothing for other kinds.
func uses(kind int) []string {
	return strings.Fields(map[int]string{
		api.PkData:      "From To Writer Reader Seq At Payload",
		api.PkHeartbeat: "From To Writer Reader First Last At",
		api.PkAck:       "From To Writer Reader First Last At Missing",
		api.PkGap:       "From To Writer Reader Seq First Last At",
		api.PkAnnounce:  "From To Writer Reader Seq At Payload",
	}[kind])
}

// limits returns the range of a number that a kind uses.
func limits(kind int, field string) (int, int) {
	low, high := 0, api.MaxTime
	switch field {
	case "From", "To":
		high = api.MaxNodes - 1
	case "Writer", "Reader":
		low, high = 1, maxId
	case "Seq", "First":
		low = 1
	}
	switch {
	case kind == api.PkAnnounce:
		low = 0
	case kind == api.PkGap && field == "Seq":
		low, high = 0, 1
	}
	return low, high
}

// between reports whether low <= n <= high.
func between(n, low, high int) bool { return low <= n && n <= high }

// modelCheck is the oracle of Check.
func modelCheck(p api.Packet) api.Errno {
	used := uses(p.Kind)
	if len(used) == 0 {
		return api.ErrRange
	}
	fields := reflect.ValueOf(p)
	for _, name := range used {
		if f := fields.FieldByName(name); f.Kind() == reflect.Int {
			if low, high := limits(p.Kind, name); !between(int(f.Int()), low, high) {
				return api.ErrRange
			}
		}
	}
	if len(p.Payload) > api.MaxPayload || len(p.Missing) > maxMissing {
		return api.ErrLong
	}
	for i := range fields.NumField() {
		f := fields.Field(i)
		empty := f.IsZero() || f.Kind() == reflect.Slice && f.Len() == 0
		if name := fields.Type().Field(i).Name; name != "Kind" && !slices.Contains(used, name) && !empty {
			return api.ErrFormat
		}
	}
	for i, n := range p.Missing {
		if !between(n, p.First, p.Last) || i > 0 && n <= p.Missing[i-1] {
			return api.ErrFormat
		}
	}
	return api.OK
}

// modelEncode is the oracle of the encoding of a packet, also of one that is
// not valid, as long as its numbers are not negative.
func modelEncode(p api.Packet) string {
	b := binary.AppendUvarint(nil, uint64(p.Kind))
	for _, name := range uses(p.Kind) {
		switch f := reflect.ValueOf(p).FieldByName(name); f.Kind() {
		case reflect.Int:
			b = binary.AppendUvarint(b, uint64(f.Int()))
		case reflect.Slice:
			b = binary.AppendUvarint(b, uint64(f.Len()))
			for _, n := range p.Missing {
				b = binary.AppendUvarint(b, uint64(n))
			}
		case reflect.String:
			b = binary.AppendUvarint(b, uint64(f.Len()))
			b = append(b, p.Payload...)
		}
	}
	return string(b)
}

// modelDecode is the oracle of Decode.
func modelDecode(s string) (api.Packet, api.Errno) {
	r := wire.NewReader(s)
	p := api.Packet{Kind: r.Small(5)}
	if r.Err() == api.OK && p.Kind == 0 {
		return api.Packet{}, api.ErrRange
	}
	fields := reflect.ValueOf(&p).Elem()
	for _, name := range uses(p.Kind) {
		switch f := fields.FieldByName(name); f.Kind() {
		case reflect.Int:
			f.SetInt(int64(r.Small(1 << 40)))
		case reflect.Slice:
			count := r.Small(32)
			for range count {
				p.Missing = append(p.Missing, r.Small(1<<40))
			}
		case reflect.String:
			p.Payload = r.Text(api.MaxPayload)
		}
	}
	if e := firstError(r.Err(), r.End(), modelCheck(p)); e != api.OK {
		return api.Packet{}, e
	}
	return p, api.OK
}

// sealed is the oracle of checksum.Seal.
func sealed(s string) string {
	sum := crc32.Checksum([]byte(s), crc32.MakeTable(crc32.Castagnoli))
	return string(binary.LittleEndian.AppendUint32(nil, sum)) + s
}

// validFragment is the definition of a valid fragment.
func validFragment(f api.Fragment) bool {
	return between(f.Id, 0, api.MaxTime) && between(f.Count, 1, api.MaxFragment) && between(f.Index, 0, f.Count-1) && len(f.Data) <= api.MaxText
}

// contents is the encoding of a fragment without its checksum, also of one that
// is not valid, as long as its numbers are not negative.
func contents(f api.Fragment) string {
	var b []byte
	for _, n := range []int{f.Id, f.Index, f.Count, len(f.Data)} {
		b = binary.AppendUvarint(b, uint64(n))
	}
	return string(b) + f.Data
}

// modelUnframe is the oracle of Unframe, of what has a right checksum.
func modelUnframe(contents string) (api.Fragment, api.Errno) {
	r := wire.NewReader(contents)
	var f api.Fragment
	f.Id = r.Small(1 << 40)
	f.Index = r.Small(64)
	f.Count = r.Small(64)
	f.Data = r.Text(api.MaxText)
	e := firstError(r.Err(), r.End())
	if e == api.OK && !validFragment(f) {
		e = api.ErrRange
	}
	if e != api.OK {
		return api.Fragment{}, e
	}
	return f, api.OK
}

// randomNumber returns a number that is often in range, or near a limit.
func randomNumber(r *rand.Rand, low, high int) int {
	switch near := numbersNear(); r.Intn(8) {
	case 0:
		return low
	case 1:
		return high
	case 2:
		return low + r.Intn(high-low+1)>>r.Intn(40)
	case 3:
		if r.Intn(10) == 0 {
			return near[r.Intn(len(near))]
		}
		fallthrough
	default:
		return low + r.Intn(min(high-low+1, 20))
	}
}

// randomText returns a text of at most so many bytes.
func randomText(r *rand.Rand, length int) string {
	b := make([]byte, r.Intn(length+1))
	for i := range b {
		b[i] = byte(r.Intn(256))
	}
	return string(b)
}

// randomPacket returns a packet that is often valid.
func randomPacket(r *rand.Rand) api.Packet {
	p := api.Packet{Kind: kinds()[r.Intn(5)]}
	for _, name := range uses(p.Kind) {
		if name == "Payload" {
			p.Payload = randomText(r, []int{3, 40, api.MaxPayload}[r.Intn(3)])
		} else if name != "Missing" {
			low, high := limits(p.Kind, name)
			p = with(p, name, randomNumber(r, low, high))
		}
	}
	if p.Kind == api.PkAck && r.Intn(8) > 0 {
		p.Last = p.First + r.Intn(50)
	}
	if p.Kind == api.PkAck && p.Last > p.First {
		for n := p.First; n <= p.Last && len(p.Missing) < 32 && r.Intn(30) > 0; n++ {
			if r.Intn(3) > 0 {
				p.Missing = append(p.Missing, n)
			}
		}
	}
	if r.Intn(6) == 0 {
		return damagedPacket(r, p)
	}
	return p
}

// damagedPacket returns a packet of which one thing is another one.
func damagedPacket(r *rand.Rand, p api.Packet) api.Packet {
	near := numbersNear()
	n := near[r.Intn(len(near))]
	switch names := append(numberFields(), "Kind"); r.Intn(4) {
	case 0:
		p.Payload = []string{"x", text(api.MaxPayload), text(api.MaxPayload + 1)}[r.Intn(3)]
	case 1:
		p.Missing = append(p.Missing, n)
	case 2:
		p.Missing = append(p.Missing, ascending(p.Last, r.Intn(34))...)
	default:
		p = with(p, names[r.Intn(len(names))], n)
	}
	return p
}

// forShortStrings calls check with start followed by at most left of the bytes.
func forShortStrings(start string, left int, bytes string, check func(s string)) {
	check(start)
	if left == 0 {
		return
	}
	for i := range len(bytes) {
		forShortStrings(start+bytes[i:i+1], left-1, bytes, check)
	}
}

// damagedString returns a string in which some bytes are others, missing, or
// there twice.
func damagedString(r *rand.Rand, s string) string {
	b := []byte(s)
	for range 1 + r.Intn(2) {
		at := r.Intn(len(b) + 1)
		if len(b) > 12 && r.Intn(3) > 0 {
			at = r.Intn(12) // where the numbers are
		}
		odd := "\x00\x01\x02\x05\x20\x40\x7f\x80\x81\xff"[r.Intn(10)]
		switch {
		case at == len(b) || r.Intn(3) == 0:
			b = slices.Insert(b, at, odd)
		case r.Intn(2) == 0:
			b = slices.Delete(b, at, at+1)
		default:
			b[at] = odd
		}
	}
	return string(b)
}
