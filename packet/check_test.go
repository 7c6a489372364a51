package packet_test

import (
	"math/rand"
	"slices"
	"testing"

	"robotics/api"
)

// P15.1

func TestCheckSamples(t *testing.T) {
	for _, kind := range kinds() {
		checks(t, sample(kind), api.OK)
	}
}

// The least and the greatest packets of each kind.
func TestCheckExtremes(t *testing.T) {
	const top = api.MaxTime
	for _, p := range []api.Packet{
		{Kind: api.PkData, Writer: 1, Reader: 1, Seq: 1},
		{Kind: api.PkData, From: 7, To: 7, Writer: maxId, Reader: maxId, Seq: top, At: top, Payload: text(api.MaxPayload)},
		{Kind: api.PkHeartbeat, Writer: 1, Reader: 1, First: 1},
		{Kind: api.PkHeartbeat, From: 7, To: 7, Writer: maxId, Reader: maxId, First: top, Last: top, At: top},
		{Kind: api.PkHeartbeat, Writer: 1, Reader: 1, First: top, Last: 0},
		{Kind: api.PkAck, Writer: 1, Reader: 1, First: 1},
		{Kind: api.PkAck, From: 7, To: 7, Writer: maxId, Reader: maxId, First: top, Last: top, At: top, Missing: []int{top}},
		{Kind: api.PkAck, Writer: 1, Reader: 1, First: 1, Last: top, Missing: []int{1, top}},
		{Kind: api.PkGap, Writer: 1, Reader: 1, First: 1},
		{Kind: api.PkGap, From: 7, To: 7, Writer: maxId, Reader: maxId, Seq: 1, First: top, Last: top, At: top},
		{Kind: api.PkAnnounce},
		{Kind: api.PkAnnounce, From: 7, To: 7, Writer: maxId, Reader: maxId, Seq: top, At: top, Payload: text(api.MaxPayload)},
	} {
		checks(t, p, api.OK)
	}
}

func TestCheckKinds(t *testing.T) {
	for _, kind := range []int{least, -3, -2, -1, 0, 6, 7, 8, 256, 257, 1 << 32, 1<<32 + 1, most} {
		for _, like := range kinds() {
			checks(t, with(sample(like), "Kind", kind), api.ErrRange)
		}
		checks(t, api.Packet{Kind: kind}, api.ErrRange)
	}
}

// The range of each number of each kind.
func TestCheckRanges(t *testing.T) {
	for _, x := range []struct {
		kind      int
		field     string
		low, high int
	}{
		{api.PkData, "From", 0, 7}, {api.PkData, "To", 0, 7}, {api.PkData, "Writer", 1, maxId}, {api.PkData, "Reader", 1, maxId},
		{api.PkData, "Seq", 1, api.MaxTime}, {api.PkData, "At", 0, api.MaxTime},
		{api.PkHeartbeat, "From", 0, 7}, {api.PkHeartbeat, "To", 0, 7}, {api.PkHeartbeat, "Writer", 1, maxId}, {api.PkHeartbeat, "Reader", 1, maxId},
		{api.PkHeartbeat, "First", 1, api.MaxTime}, {api.PkHeartbeat, "Last", 0, api.MaxTime}, {api.PkHeartbeat, "At", 0, api.MaxTime},
		{api.PkAck, "From", 0, 7}, {api.PkAck, "To", 0, 7}, {api.PkAck, "Writer", 1, maxId}, {api.PkAck, "Reader", 1, maxId},
		{api.PkAck, "First", 1, api.MaxTime}, {api.PkAck, "Last", 0, api.MaxTime}, {api.PkAck, "At", 0, api.MaxTime},
		{api.PkGap, "From", 0, 7}, {api.PkGap, "To", 0, 7}, {api.PkGap, "Writer", 1, maxId}, {api.PkGap, "Reader", 1, maxId},
		{api.PkGap, "Seq", 0, 1}, {api.PkGap, "First", 1, api.MaxTime}, {api.PkGap, "Last", 0, api.MaxTime}, {api.PkGap, "At", 0, api.MaxTime},
		{api.PkAnnounce, "From", 0, 7}, {api.PkAnnounce, "To", 0, 7}, {api.PkAnnounce, "Writer", 0, maxId}, {api.PkAnnounce, "Reader", 0, maxId},
		{api.PkAnnounce, "Seq", 0, api.MaxTime}, {api.PkAnnounce, "At", 0, api.MaxTime},
	} {
		p := sample(x.kind)
		p.Missing = nil // so that First and Last need not suit it
		for _, n := range append(numbersNear(), x.low-1, x.low, x.high, x.high+1) {
			want := api.OK
			if n < x.low || n > x.high {
				want = api.ErrRange
			}
			checks(t, with(p, x.field, n), want)
		}
	}
}

// Numbers that a kind does not use must be zero.
func TestCheckUnusedNumbers(t *testing.T) {
	for _, x := range []struct {
		kind   int
		unused []string
	}{
		{api.PkData, []string{"First", "Last"}}, {api.PkHeartbeat, []string{"Seq"}}, {api.PkAck, []string{"Seq"}}, {api.PkGap, nil},
		{api.PkAnnounce, []string{"First", "Last"}},
	} {
		for _, field := range x.unused {
			for _, n := range numbersNear() {
				want := api.ErrFormat
				if n == 0 {
					want = api.OK
				}
				checks(t, with(sample(x.kind), field, n), want)
			}
		}
	}
}

// A text or a list that a kind does not use must be empty, and may not be too
// long either.
func TestCheckUnusedLists(t *testing.T) {
	for _, kind := range []int{api.PkHeartbeat, api.PkAck, api.PkGap} {
		for _, n := range []int{1, 2, api.MaxPayload - 1, api.MaxPayload} {
			checks(t, withPayload(sample(kind), text(n)), api.ErrFormat)
		}
		checks(t, withPayload(sample(kind), "\x00"), api.ErrFormat)
		for _, n := range []int{api.MaxPayload + 1, 3 * api.MaxPayload} {
			checks(t, withPayload(sample(kind), text(n)), api.ErrLong)
		}
	}
	for _, kind := range []int{api.PkData, api.PkHeartbeat, api.PkGap, api.PkAnnounce} {
		p := sample(kind)
		p.Missing = []int{}
		checks(t, p, api.OK)
		for _, list := range [][]int{{0}, {1}, {6}, {7}, {6, 8}, {-1}, ascending(6, 3), make([]int, maxMissing)} {
			p.Missing = list
			checks(t, p, api.ErrFormat)
		}
		for _, n := range []int{maxMissing + 1, 1000} {
			p.Missing = ascending(1, n)
			checks(t, p, api.ErrLong)
		}
	}
}

func TestCheckPayloads(t *testing.T) {
	for _, kind := range []int{api.PkData, api.PkAnnounce} {
		for _, payload := range []string{"", "a", "\x00\xff", "two\nlines", "\u00e9", text(127), text(128), text(api.MaxPayload - 1), text(api.MaxPayload)} {
			checks(t, withPayload(sample(kind), payload), api.OK)
		}
		for _, n := range []int{api.MaxPayload + 1, 2 * api.MaxPayload, 1 << 20} {
			checks(t, withPayload(sample(kind), text(n)), api.ErrLong)
		}
	}
}

func TestCheckMissing(t *testing.T) {
	p := sample(api.PkAck)
	p.Missing = []int{}
	checks(t, p, api.OK)
	for _, x := range []struct {
		first, last int
		missing     []int
		e           api.Errno
	}{
		{1, 0, nil, api.OK}, {9, 3, nil, api.OK}, {api.MaxTime, 0, nil, api.OK},
		{5, 9, []int{5}, api.OK}, {5, 9, []int{9}, api.OK}, {5, 9, []int{6, 8}, api.OK}, {5, 9, []int{5, 6, 7, 8, 9}, api.OK}, {5, 5, []int{5}, api.OK},
		// not from First to Last
		{5, 9, []int{4}, api.ErrFormat}, {5, 9, []int{10}, api.ErrFormat}, {5, 9, []int{4, 5}, api.ErrFormat}, {5, 9, []int{9, 10}, api.ErrFormat},
		{5, 9, []int{0}, api.ErrFormat}, {5, 9, []int{-5}, api.ErrFormat}, {5, 9, []int{least}, api.ErrFormat}, {5, 9, []int{most}, api.ErrFormat},
		{5, 9, []int{6, most}, api.ErrFormat}, {5, 9, []int{most, 6}, api.ErrFormat}, {5, 9, []int{6, least}, api.ErrFormat},
		{5, 4, []int{5}, api.ErrFormat}, {5, 4, []int{4}, api.ErrFormat}, {5, 3, []int{4}, api.ErrFormat}, {1, 0, []int{0}, api.ErrFormat}, {1, 0, []int{1}, api.ErrFormat},
		// not ascending strictly
		{5, 9, []int{6, 6}, api.ErrFormat}, {5, 9, []int{7, 6}, api.ErrFormat}, {5, 9, []int{5, 5}, api.ErrFormat}, {5, 9, []int{9, 9}, api.ErrFormat},
		{5, 9, []int{9, 5}, api.ErrFormat}, {5, 9, []int{5, 7, 6}, api.ErrFormat}, {5, 9, []int{5, 7, 7, 9}, api.ErrFormat}, {5, 9, []int{5, 9, 8}, api.ErrFormat},
		// how many
		{1, 99, ascending(1, maxMissing-1), api.OK}, {1, 99, ascending(1, maxMissing), api.OK}, {68, 99, ascending(68, maxMissing), api.OK},
		{1, 99, ascending(1, maxMissing+1), api.ErrLong}, {1, 9999, ascending(1, 1000), api.ErrLong},
		// too many, and not from First to Last or not ascending
		{5, 9, ascending(1, maxMissing+1), api.ErrLong}, {1, 99, make([]int, maxMissing+1), api.ErrLong}, {1, 99, make([]int, maxMissing), api.ErrFormat},
		{5, 5, ascending(5, maxMissing), api.ErrFormat},
	} {
		checks(t, withMissing(sample(api.PkAck), x.first, x.last, x.missing...), x.e)
	}
}

// The first error counts, whichever others there are.
func TestCheckOrder(t *testing.T) {
	long, list := text(api.MaxPayload+1), ascending(1, maxMissing+1)
	for _, kind := range kinds() {
		p := sample(kind)
		unused := map[int]string{api.PkData: "First", api.PkHeartbeat: "Seq", api.PkAck: "Seq", api.PkAnnounce: "Last"}[kind]
		spoiled := p
		if unused != "" {
			spoiled = with(p, unused, 3)
			checks(t, spoiled, api.ErrFormat)
		}
		checks(t, withPayload(spoiled, long), api.ErrLong)
		both := withPayload(spoiled, long)
		both.Missing = list
		checks(t, both, api.ErrLong)
		both.Payload = ""
		checks(t, both, api.ErrLong)
		for _, field := range uses(kind) {
			if field == "Missing" || field == "Payload" {
				continue
			}
			checks(t, with(withPayload(spoiled, long), field, -1), api.ErrRange)
			checks(t, with(both, field, api.MaxTime+1), api.ErrRange)
		}
		checks(t, with(both, "Kind", 0), api.ErrRange)
		checks(t, with(withPayload(p, long), "Kind", 6), api.ErrRange)
	}
	p := withMissing(sample(api.PkAck), 5, 9, 9, 9)
	checks(t, with(p, "First", 0), api.ErrRange)
	checks(t, withPayload(p, long), api.ErrLong)
}

func TestCheckRandomPackets(t *testing.T) {
	r := rand.New(rand.NewSource(1))
	seen := map[int]map[api.Errno]int{}
	for _, kind := range kinds() {
		seen[kind] = map[api.Errno]int{}
	}
	for range 100000 {
		p := randomPacket(r)
		missing := slices.Clone(p.Missing)
		e := modelCheck(p)
		checks(t, p, e)
		if !slices.Equal(p.Missing, missing) {
			t.Fatalf("Missing became %v", p.Missing)
		}
		if count := seen[p.Kind]; count != nil {
			count[e]++
		}
	}
	for kind, count := range seen {
		if count[api.OK] < 5000 || count[api.ErrRange] < 100 || count[api.ErrLong] < 100 || count[api.ErrFormat] < 100 {
			t.Errorf("kind %d: %v", kind, count)
		}
	}
}
