package packet_test

import (
	"math/rand"
	"reflect"
	"slices"
	"strings"
	"testing"

	"robotics/api"
	"robotics/packet"
)

// P15.8

// Each string that differs in one byte from the encoding of a packet or of a
// fragment is accepted only if it is an encoding itself.
func TestChangedEncodings(t *testing.T) {
	accepted := 0
	for _, kind := range kinds() {
		p := sample(kind)
		p.Writer, p.At = 300, 1<<20
		s := modelEncode(p)
		for at := range len(s) {
			for b := range 256 {
				changed := s[:at] + string([]byte{byte(b)}) + s[at+1:]
				q, e := packet.Decode(changed)
				if e != api.OK {
					continue
				}
				accepted++
				if back, e := packet.Encode(q); e != api.OK || back != changed || modelCheck(q) != api.OK {
					t.Errorf("%q is accepted as %v, whose encoding is %q, %v", changed, q, back, e)
				}
			}
		}
	}
	s := contents(fragment(300, 5, 9, "ab"))
	for at := range len(s) {
		for b := range 256 {
			changed := s[:at] + string([]byte{byte(b)}) + s[at+1:]
			f, e := packet.Unframe(sealed(changed))
			if e != api.OK {
				continue
			}
			accepted++
			if packet.Frame(f) != sealed(changed) || !validFragment(f) {
				t.Errorf("%q is accepted as %v", changed, f)
			}
		}
	}
	if accepted < 3000 {
		t.Errorf("%d accepted", accepted)
	}
}

// A packet comes through all that is done with it on its way.
func TestPacketsAreRecovered(t *testing.T) {
	r := rand.New(rand.NewSource(6))
	valid := 0
	for range 20000 {
		p := randomPacket(r)
		s, e := packet.Encode(p)
		if e != api.OK {
			continue
		}
		valid++
		id := r.Intn(api.MaxTime + 1)
		a := packet.NewAssembler(1)
		var whole []string
		list := split(t, id, s, 200)
		for _, k := range r.Perm(len(list)) {
			f, e := packet.Unframe(packet.Frame(list[k]))
			if e != api.OK || f != list[k] {
				t.Fatalf("%v became %v, %v", short(list[k]), short(f), e)
			}
			if s, done, e := a.Add(p.From, f); done && e == api.OK {
				whole = append(whole, s)
			}
		}
		if len(whole) != 1 || whole[0] != s {
			t.Fatalf("%d strings of %d fragments", len(whole), len(list))
		}
		decodes(t, whole[0], p, api.OK)
	}
	if valid < 10000 {
		t.Errorf("%d packets", valid)
	}
}

// P15.9

// story is what happens to a string on its way, with others that come between
// its fragments.
type story struct {
	r       *rand.Rand
	from    int
	s       string
	list    []api.Fragment // of the string, some of them repeated, in any order
	begun   int            // other strings that are begun meanwhile
	atOnce  int            // others of the same sender that are completed meanwhile
	nextId  int
	waiting []call // for the ends of others that were begun
}

func newStory(t *testing.T, r *rand.Rand) *story {
	x := &story{r: r, from: r.Intn(api.MaxNodes), nextId: 1000}
	count := 1 + r.Intn(6)
	x.s = randomText(r, 3*count)
	x.list = split(t, r.Intn(1000), x.s, max(1, (len(x.s)+count-1)/count))
	for range r.Intn(10) {
		x.list = append(x.list, x.list[r.Intn(len(x.list))])
	}
	r.Shuffle(len(x.list), func(i, j int) { x.list[i], x.list[j] = x.list[j], x.list[i] })
	return x
}

// begin begins another string, of any sender.
func (x *story) begin(a assembler) {
	x.nextId++
	from := x.r.Intn(api.MaxNodes)
	a.Add(from, fragment(x.nextId, 0, 2, "other"))
	x.waiting = append(x.waiting, call{from, fragment(x.nextId, 1, 2, "end")})
}

// end ends one of those that were begun, if it is not of the same sender, whose
// completed strings are counted.
func (x *story) end(a assembler) {
	k := x.r.Intn(len(x.waiting))
	if y := x.waiting[k]; y.from != x.from {
		a.Add(y.from, y.f)
		x.waiting = slices.Delete(x.waiting, k, k+1)
	}
}

// complete completes another string of the same sender.
func (x *story) complete(a assembler) {
	x.nextId++
	a.Add(x.from, fragment(x.nextId, 0, 1, "now"))
}

// tell adds the fragments, and returns what is given of the string.
func (x *story) tell(t *testing.T, a assembler) (got []string) {
	for i, f := range x.list {
		for i > 0 && (x.r.Intn(3) > 0 || i == len(x.list)-1) && x.begun+x.atOnce > 0 {
			if x.r.Intn(x.begun+x.atOnce) < x.begun {
				x.begun--
				x.begin(a)
			} else {
				x.atOnce--
				x.complete(a)
			}
			if len(x.waiting) > 0 && x.r.Intn(4) == 0 {
				x.end(a)
			}
		}
		s, done, e := a.Add(x.from, f)
		if e != api.OK {
			t.Fatalf("Add(%v): %v", f, e)
		}
		if done {
			got = append(got, s)
		}
	}
	return got
}

func TestStringsAreGivenOnce(t *testing.T) {
	r := rand.New(rand.NewSource(7))
	for range 5000 {
		most := 1 + r.Intn(1<<r.Intn(9))
		a := packet.NewAssembler(most)
		x := newStory(t, r)
		for range r.Intn(2 * most) { // what was begun before is of no account
			x.begin(a)
		}
		for range r.Intn(100) {
			x.complete(a)
		}
		x.waiting = nil
		x.begun, x.atOnce = r.Intn(most), r.Intn(64)
		if r.Intn(4) == 0 {
			x.begun, x.atOnce = most-1, 63
		}
		if got := x.tell(t, a); len(got) != 1 || got[0] != x.s {
			t.Fatalf("%q of %v: %q", x.s, x.list, got)
		}
	}
}

// With one string more that is begun, or completed, this does not hold.
func TestStringsThatAreNotGivenOnce(t *testing.T) {
	for _, most := range []int{1, 2, 5, 256} {
		p := newPair(most)
		p.adds(t, 4, fragment(1, 0, 2, "a"), nothing(), 1)
		for k := range most {
			p.adds(t, k%api.MaxNodes, fragment(2+k, 0, 2, "other"), nothing(), min(k+2, most))
		}
		p.run(t, call{4, fragment(1, 1, 2, "b")})
		if p.model.find(4, 1) == nil {
			t.Errorf("the string is complete after %d others were begun", most)
		}

		p = newPair(most)
		p.adds(t, 4, fragment(1, 0, 1, "twice"), given("twice"), 0)
		for k := range 64 {
			p.adds(t, 4, fragment(2+k, 0, 1, "other"), given("other"), 0)
		}
		p.adds(t, 4, fragment(1, 0, 1, "twice"), given("twice"), 0)
	}
}

// R1

func TestStrangeArguments(t *testing.T) {
	near := numbersNear()
	r := rand.New(rand.NewSource(10))
	random := func() int {
		if r.Intn(4) == 0 {
			return int(r.Uint64())
		}
		return near[r.Intn(len(near))]
	}
	a, small := newPair(random()), newPair(1)
	for range 100000 {
		p := api.Packet{Kind: r.Intn(7), From: random(), To: random(), Writer: random(), Reader: random(), Seq: random(), First: random(), Last: random(), At: random()}
		for range r.Intn(3) {
			p.Missing = append(p.Missing, random())
		}
		checks(t, p, modelCheck(p))
		f := fragment(random(), random(), random(), randomText(r, 3))
		if s := packet.Frame(f); (s != "") != validFragment(f) {
			t.Errorf("Frame(%v) = %q", f, s)
		}
		from := random()
		a.run(t, call{from, f})
		small.run(t, call{from, f})
		noise := randomText(r, 30)
		want, e := modelDecode(noise)
		decodes(t, noise, want, e)
		inside, e := modelUnframe(noise)
		unframes(t, sealed(noise), inside, e)
	}
	for _, id := range near {
		for _, size := range near {
			list, e := packet.Split(id, "text", size)
			want := api.OK
			if !between(id, 0, api.MaxTime) || !between(size, 1, api.MaxText) {
				want = api.ErrRange
			}
			if e != want || (len(list) > 0) != (e == api.OK) {
				t.Errorf("Split(%d, text, %d) = %v, %v", id, size, list, e)
			}
		}
	}
}

// An Assembler that no function returned only terminates and does not panic.
func TestPlainAssemblers(t *testing.T) {
	r := rand.New(rand.NewSource(11))
	for range 300 {
		x := newCaller(r)
		var plain packet.Assembler
		for range 100 {
			x.next().on(&plain)
			plain.Open()
		}
		// a copy, which has the same strings
		one := packet.NewAssembler(1 + r.Intn(10))
		for range 50 {
			x.next().on(one)
		}
		other := *one
		for range 200 {
			a := []*packet.Assembler{one, &other}[r.Intn(2)]
			x.next().on(a)
			a.Open()
		}
	}
}

// R2

// An assembler on which the calls with errors are not made is the same.
func TestErrorsChangeNothing(t *testing.T) {
	r := rand.New(rand.NewSource(12))
	errors := 0
	for range 500 {
		x := newCaller(r)
		x.strange = 2
		kept := 1 + r.Intn(20)
		a, without := packet.NewAssembler(kept), newPair(kept)
		for range 300 {
			y := x.next()
			before := a.Open()
			got := y.on(a)
			if got.e == api.OK {
				if want := without.run(t, y); got != want {
					t.Fatalf("Add(%v) = %v, without the errors %v", y.brief(), got.brief(), want.brief())
				}
				continue
			}
			errors++
			if got != failed(got.e) || a.Open() != before {
				t.Fatalf("Add(%v) = %v: Open = %d, then %d", y.brief(), got.brief(), before, a.Open())
			}
		}
		without.probe(t)
		pair{a, without.model}.probe(t)
	}
	if errors < 20000 {
		t.Errorf("%d errors", errors)
	}
}

// R3

// An empty list may be nil or not.
func TestEmptyLists(t *testing.T) {
	for _, kind := range kinds() {
		p := sample(kind)
		p.Missing = nil
		want, _ := packet.Encode(p)
		for _, empty := range [][]int{{}, make([]int, 0, 5), ascending(6, 2)[:0]} {
			p.Missing = empty
			if s, e := packet.Encode(p); s != want || s == "" || e != api.OK || packet.Check(p) != api.OK {
				t.Errorf("Encode(%v) = %q, %v, want %q", p, s, e, want)
			}
		}
	}
}

func TestMissingIsNotModified(t *testing.T) {
	r := rand.New(rand.NewSource(13))
	for range 5000 {
		p := randomPacket(r)
		room := append(slices.Clone(p.Missing), 77, -3, 0, 99)
		before := slices.Clone(room)
		p.Missing = room[:len(p.Missing)]
		q := p
		packet.Check(p)
		packet.Encode(p)
		if !slices.Equal(room, before) || !reflect.DeepEqual(p, q) {
			t.Fatalf("%v became %v", before, room)
		}
	}
}

func TestResultsAreNewMemory(t *testing.T) {
	p := withMissing(sample(api.PkAck), 6, 99, ascending(6, 20)...)
	s := modelEncode(p)
	one, _ := packet.Decode(s)
	other, _ := packet.Decode(s)
	for i := range one.Missing[:cap(one.Missing)] {
		one.Missing[:cap(one.Missing)][i] = -7
	}
	if !same(other, p) {
		t.Errorf("%v became %v", p, other)
	}
	decodes(t, s, p, api.OK)

	long := strings.Repeat("abc", 30)
	first, want := split(t, 1, long, 7), split(t, 1, long, 7)
	for i := range first[:cap(first)] {
		first[:cap(first)][i] = fragment(-7, -7, -7, "overwritten")
	}
	if got := split(t, 1, long, 7); !slices.Equal(got, want) || len(want) != 13 {
		t.Errorf("%v, then %v", want, got)
	}
}

// R4

func TestNilAssemblers(t *testing.T) {
	var none *packet.Assembler
	for _, from := range []int{least, -1, 0, 7, 8, most} {
		for _, f := range []api.Fragment{{}, fragment(1, 0, 1, "a"), fragment(1, 0, 2, "a"), fragment(-1, 0, 1, "a"), fragment(1, 0, 1, text(api.MaxText+1))} {
			if got := (call{from, f}).on(none); got != failed(api.ErrNone) {
				t.Errorf("Add(%d, %v) of nil: %v", from, short(f), got)
			}
			if none.Open() != 0 {
				t.Errorf("Open of nil: %d", none.Open())
			}
		}
	}
}

// R7

// Assemblers do not know of each other.
func TestAssemblersAreIndependent(t *testing.T) {
	r := rand.New(rand.NewSource(14))
	for range 200 {
		x, y := newCaller(r), newCaller(r)
		pairs := []pair{newPair(1), newPair(3), newPair(3), newPair(100)}
		for range 400 {
			z := x.next()
			if r.Intn(2) == 0 {
				z = y.next()
			}
			pairs[r.Intn(len(pairs))].run(t, z)
		}
		for _, p := range pairs {
			p.probe(t)
		}
	}
}

// The same calls have the same outcomes.
func TestCallsAreDeterministic(t *testing.T) {
	r := rand.New(rand.NewSource(15))
	for range 200 {
		x := newCaller(r)
		kept := 1 + r.Intn(30)
		var calls []call
		for range 300 {
			calls = append(calls, x.next())
		}
		var first []outcome
		for round := range 5 {
			a := packet.NewAssembler(kept)
			for i, y := range calls {
				o := y.on(a)
				if round == 0 {
					first = append(first, o)
				} else if o != first[i] {
					t.Fatalf("Add(%v) = %v, then %v", y.brief(), first[i].brief(), o.brief())
				}
			}
		}
	}
	for range 2000 {
		p := randomPacket(r)
		s, e := packet.Encode(p)
		if s2, e2 := packet.Encode(p); s2 != s || e2 != e {
			t.Fatalf("Encode(%v) = %q, %v, then %q, %v", brief(p), s, e, s2, e2)
		}
	}
}
