package packet_test

import (
	"reflect"
	"strings"
	"testing"

	"robotics/api"
	"robotics/packet"
)

const (
	least = -1 << 63
	most  = 1<<63 - 1

	maxId      = 1 << 30
	maxMissing = 32
)

// kinds returns the kinds of packets.
func kinds() []int {
	return []int{api.PkData, api.PkHeartbeat, api.PkAck, api.PkGap, api.PkAnnounce}
}

// sample returns a valid packet of a kind, all numbers of which are different
// and not zero as far as they may be.
func sample(kind int) api.Packet {
	p := api.Packet{Kind: kind, From: 1, To: 2, Writer: 3, Reader: 4, At: 9}
	switch kind {
	case api.PkData, api.PkAnnounce:
		p.Seq, p.Payload = 5, "load"
	case api.PkHeartbeat:
		p.First, p.Last = 6, 8
	case api.PkAck:
		p.First, p.Last, p.Missing = 6, 8, []int{6, 8}
	case api.PkGap:
		p.Seq, p.First, p.Last = 1, 6, 8
	}
	return p
}

// with returns a packet in which a number is another one.
func with(p api.Packet, field string, n int) api.Packet {
	reflect.ValueOf(&p).Elem().FieldByName(field).SetInt(int64(n))
	return p
}

func withPayload(p api.Packet, payload string) api.Packet {
	p.Payload = payload
	return p
}

func withMissing(p api.Packet, first, last int, missing ...int) api.Packet {
	p.First, p.Last, p.Missing = first, last, missing
	return p
}

// numberFields are the fields of a packet that are numbers, beside the kind.
func numberFields() []string {
	return []string{"From", "To", "Writer", "Reader", "Seq", "First", "Last", "At"}
}

// numbersNear returns numbers at limits.
func numbersNear() []int {
	all := []int{least, least + 1, -1, 0, 1, 2, most - 1, most}
	for _, n := range []int{api.MaxNodes, 32, 64, 127, 128, 16384, maxId, 1 << 31, 1 << 32, api.MaxTime} {
		all = append(all, n-1, n, n+1, -n)
	}
	return all
}

// text returns a text of so many bytes.
func text(n int) string { return strings.Repeat("x", n) }

// ascending returns so many numbers from first on.
func ascending(first, count int) []int {
	list := make([]int, count)
	for i := range list {
		list[i] = first + i
	}
	return list
}

// same reports whether two packets are equal; an empty list may be nil.
func same(p, q api.Packet) bool {
	if len(p.Missing) == 0 && len(q.Missing) == 0 {
		p.Missing, q.Missing = nil, nil
	}
	return reflect.DeepEqual(p, q)
}

// checks checks the error of a packet, that Encode has the same one, and that
// the packet, if it is valid, is recovered.
func checks(t *testing.T, p api.Packet, want api.Errno) {
	t.Helper()
	if e := packet.Check(p); e != want {
		t.Errorf("Check(%v) = %v, want %v", brief(p), e, want)
	}
	s, e := packet.Encode(p)
	if e != want || e != api.OK && s != "" {
		t.Errorf("Encode(%v) = %.40q, %v, want %v", brief(p), s, e, want)
	}
	if want == api.OK {
		decodes(t, s, p, api.OK)
	}
}

// decodes checks what a string decodes to. With an error, it is the zero packet.
func decodes(t *testing.T, s string, want api.Packet, wantError api.Errno) {
	t.Helper()
	if p, e := packet.Decode(s); e != wantError || !same(p, want) {
		t.Errorf("Decode(%.60q) = %v, %v, want %v, %v", s, brief(p), e, brief(want), wantError)
	}
}

// fails checks that a string does not decode.
func fails(t *testing.T, s string, want api.Errno) {
	t.Helper()
	decodes(t, s, api.Packet{}, want)
}

// brief leaves out most of a long payload.
func brief(p api.Packet) api.Packet {
	p.Payload = p.Payload[:min(len(p.Payload), 12)]
	return p
}

// firstError returns the first one that is not OK, or OK.
func firstError(list ...api.Errno) api.Errno {
	for _, e := range list {
		if e != api.OK {
			return e
		}
	}
	return api.OK
}

// fragment returns a fragment.
func fragment(id, index, count int, data string) api.Fragment {
	return api.Fragment{Id: id, Index: index, Count: count, Data: data}
}

// short leaves out most of the data of a fragment.
func short(f api.Fragment) api.Fragment {
	f.Data = f.Data[:min(len(f.Data), 12)]
	return f
}

// split returns the fragments of a string.
func split(t *testing.T, id int, s string, size int) []api.Fragment {
	t.Helper()
	list, e := packet.Split(id, s, size)
	if e != api.OK {
		t.Fatalf("Split(%d, %.12q, %d): %v", id, s, size, e)
	}
	return list
}
