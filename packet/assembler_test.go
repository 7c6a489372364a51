package packet_test

import (
	"math/rand"
	"testing"

	"robotics/api"
	"robotics/packet"
)

// P15.5

// How many incomplete strings are kept.
func TestNewAssembler(t *testing.T) {
	for _, x := range []struct{ most, kept int }{
		{least, 1}, {-1, 1}, {0, 1}, {1, 1}, {2, 2}, {3, 3}, {16, 16}, {64, 64}, {255, 255}, {256, 256}, {257, 256}, {1000, 256}, {1 << 32, 256}, {most, 256},
	} {
		a := packet.NewAssembler(x.most)
		if a == nil || a.Open() != 0 {
			t.Fatalf("NewAssembler(%d): %v", x.most, a)
		}
		for id := range x.kept + 50 {
			if s, done, e := a.Add(id%api.MaxNodes, fragment(id, 0, 2, "a")); s != "" || done || e != api.OK {
				t.Errorf("Add: %q, %v, %v", s, done, e)
			}
			if want := min(id+1, x.kept); a.Open() != want {
				t.Fatalf("NewAssembler(%d): Open = %d, want %d", x.most, a.Open(), want)
			}
		}
		// The last ones are there, the one before them is not.
		for id := 50; id < x.kept+50; id++ {
			if s, done, e := a.Add(id%api.MaxNodes, fragment(id, 1, 2, "b")); s != "ab" || !done || e != api.OK {
				t.Errorf("NewAssembler(%d): string %d: %q, %v, %v", x.most, id, s, done, e)
			}
		}
		if s, done, e := a.Add(49%api.MaxNodes, fragment(49, 1, 2, "b")); s != "" || done || e != api.OK || a.Open() != 1 {
			t.Errorf("NewAssembler(%d): string 49: %q, %v, %v", x.most, s, done, e)
		}
	}
}

// P15.6

func TestAdd(t *testing.T) {
	l := split(t, 7, "hello", 2)
	p := newPair(1)
	p.adds(t, 3, l[2], nothing(), 1)
	p.adds(t, 3, l[0], nothing(), 1)
	p.adds(t, 3, l[0], nothing(), 1)
	p.adds(t, 3, l[1], given("hello"), 0)
	for _, f := range l {
		p.adds(t, 3, f, nothing(), 0)
	}
	p.probe(t)
}

// All orders of three and of four fragments.
func TestOrdersOfFragments(t *testing.T) {
	l := split(t, 1, "the quick", 3)
	l = append(l, split(t, 2, "one two ", 2)...)
	for _, list := range [][]api.Fragment{l[:3], l[3:]} {
		want := map[int]string{3: "the quick", 4: "one two "}[len(list)]
		forOrders(len(list), func(order []int) {
			p := newPair(5)
			for i, k := range order {
				o, open := nothing(), 1
				if i == len(order)-1 {
					o, open = given(want), 0
				}
				p.adds(t, 0, list[k], o, open)
				p.adds(t, 0, list[k], nothing(), open) // and once more
			}
		})
	}
}

// forOrders calls check with each order of the numbers below n.
func forOrders(n int, check func(order []int)) {
	var extend func(order []int, used int)
	extend = func(order []int, used int) {
		if len(order) == n {
			check(order)
		}
		for k := range n {
			if used&(1<<k) == 0 {
				extend(append(order, k), used|1<<k)
			}
		}
	}
	extend(nil, 0)
}

// A string of one fragment is given at once; the longest one has 64.
func TestCounts(t *testing.T) {
	for count := 1; count <= api.MaxFragment; count++ {
		r := rand.New(rand.NewSource(int64(count)))
		s := randomText(r, 1000) + text(count)
		size := (len(s) + count - 1) / count
		list := split(t, api.MaxTime-count, s, size)
		p := newPair(1)
		for i, k := range r.Perm(len(list)) {
			if i < len(list)-1 {
				p.adds(t, 7, list[k], nothing(), 1)
			} else {
				p.adds(t, 7, list[k], given(s), 0)
			}
		}
		for _, f := range list {
			p.adds(t, 7, f, nothing(), 0)
		}
	}
}

// Fragments without data count, and fragments need not be of the same size.
func TestFragmentsOfAnySize(t *testing.T) {
	p := newPair(4)
	p.adds(t, 0, fragment(1, 0, 1, ""), given(""), 0)
	p.adds(t, 0, fragment(1, 0, 1, ""), nothing(), 0)
	p.adds(t, 0, fragment(2, 1, 3, ""), nothing(), 1)
	p.adds(t, 0, fragment(2, 1, 3, ""), nothing(), 1)
	p.adds(t, 0, fragment(2, 1, 3, "x"), failed(api.ErrFormat), 1)
	p.adds(t, 0, fragment(2, 0, 3, ""), nothing(), 1)
	p.adds(t, 0, fragment(2, 2, 3, ""), given(""), 0)
	p.adds(t, 0, fragment(0, 2, 3, "c"), nothing(), 1)
	p.adds(t, 0, fragment(0, 0, 3, "aaaaaa"), nothing(), 1)
	p.adds(t, 0, fragment(0, 1, 3, "\x00\xff"), given("aaaaaa\x00\xffc"), 0)
	p.adds(t, 0, fragment(3, 0, 2, text(api.MaxText)), nothing(), 1)
	p.adds(t, 0, fragment(3, 1, 2, text(api.MaxText)), given(text(2*api.MaxText)), 0)
}

// The same Id of another sender is another string.
func TestSenders(t *testing.T) {
	p := newPair(16)
	for from := range api.MaxNodes {
		p.adds(t, from, fragment(5, 0, 2, string(rune('a'+from))), nothing(), from+1)
	}
	p.adds(t, 0, fragment(5, 0, 3, "a"), failed(api.ErrFormat), 8)
	for from := range api.MaxNodes {
		p.adds(t, from, fragment(5, 1, 2, "x"), given(string(rune('a'+from))+"x"), 7-from)
		p.adds(t, from, fragment(5, 1, 2, "x"), nothing(), 7-from)
	}
	p.probe(t)
	// Also in what is remembered, and with other numbers of fragments.
	p = newPair(16)
	p.adds(t, 1, fragment(5, 0, 1, "one"), given("one"), 0)
	p.adds(t, 2, fragment(5, 0, 1, "two"), given("two"), 0)
	p.adds(t, 3, fragment(5, 0, 2, "three"), nothing(), 1)
	p.adds(t, 4, fragment(5, 0, 3, "four"), nothing(), 2)
	p.adds(t, 1, fragment(5, 0, 2, "one"), nothing(), 2)
	p.adds(t, 3, fragment(5, 1, 2, "!"), given("three!"), 1)
}

func TestAddOutOfRange(t *testing.T) {
	p := newPair(2)
	p.adds(t, 1, fragment(5, 0, 2, "a"), nothing(), 1)
	p.adds(t, 1, fragment(6, 0, 1, "b"), given("b"), 1)
	for _, from := range []int{least, -api.MaxNodes, -1, api.MaxNodes, api.MaxNodes + 1, 1 << 32, most} {
		for _, f := range []api.Fragment{fragment(5, 1, 2, "b"), fragment(5, 0, 3, "a"), fragment(6, 0, 1, "b"), fragment(7, 0, 1, "c"), fragment(-1, 0, 1, "c")} {
			p.adds(t, from, f, failed(api.ErrRange), 1)
		}
	}
	refused := 0
	for _, n := range append(numbersNear(), 3, 62, 66) {
		for _, f := range []api.Fragment{
			fragment(n, 0, 2, "a"), fragment(5, n, 2, "b"), fragment(5, n, 64, "b"), fragment(5, 0, n, "a"), fragment(5, 2, n, "a"), fragment(6, n, 1, "b"), fragment(8, n, n, ""),
		} {
			if !validFragment(f) {
				p.adds(t, 1, f, failed(api.ErrRange), 1)
				refused++
			}
		}
	}
	if refused < 100 {
		t.Errorf("%d are refused", refused)
	}
	for _, n := range []int{api.MaxText + 1, 1 << 20} {
		for id := 5; id < 8; id++ {
			p.adds(t, 1, fragment(id, 1, 2, text(n)), failed(api.ErrRange), 1)
		}
	}
	p.adds(t, 1, fragment(5, 1, 2, "b"), given("ab"), 0)
}

func TestAddOfWhatDoesNotSuit(t *testing.T) {
	p := newPair(4)
	p.adds(t, 1, fragment(5, 1, 3, "b"), nothing(), 1)
	for _, f := range []api.Fragment{
		// another Count
		fragment(5, 1, 2, "b"), fragment(5, 1, 4, "b"), fragment(5, 0, 2, "a"), fragment(5, 0, 1, "a"), fragment(5, 3, 4, "d"), fragment(5, 63, 64, "z"),
		// other Data of the same Index
		fragment(5, 1, 3, ""), fragment(5, 1, 3, "c"), fragment(5, 1, 3, "bb"), fragment(5, 1, 3, "b\x00"), fragment(5, 1, 3, "B"),
		// both
		fragment(5, 1, 2, "c"), fragment(5, 1, 4, ""),
	} {
		p.adds(t, 1, f, failed(api.ErrFormat), 1)
	}
	p.adds(t, 1, fragment(5, 1, 3, "b"), nothing(), 1)
	p.adds(t, 1, fragment(5, 0, 3, "b"), nothing(), 1) // the same Data of another Index
	p.adds(t, 1, fragment(5, 0, 3, "a"), failed(api.ErrFormat), 1)
	p.adds(t, 1, fragment(5, 1, 3, "a"), failed(api.ErrFormat), 1)
	p.adds(t, 1, fragment(5, 2, 3, "c"), given("bbc"), 0)
	// After it was completed, anything of it has no effect.
	for _, f := range []api.Fragment{fragment(5, 0, 1, "a"), fragment(5, 1, 3, "x"), fragment(5, 0, 2, "a"), fragment(5, 1, 2, "b"), fragment(5, 63, 64, "")} {
		p.adds(t, 1, f, nothing(), 0)
	}
	p.adds(t, 2, fragment(5, 0, 2, "a"), nothing(), 1)
}

// Of too many strings the one that was begun first is dropped.
func TestDropped(t *testing.T) {
	p := newPair(2)
	p.adds(t, 1, fragment(1, 0, 3, "a"), nothing(), 1)
	p.adds(t, 2, fragment(2, 0, 3, "b"), nothing(), 2)
	p.adds(t, 1, fragment(1, 1, 3, "a"), nothing(), 2) // the first one, although it had a fragment last
	p.adds(t, 3, fragment(3, 0, 3, "c"), nothing(), 2)
	p.probe(t)
	p.adds(t, 2, fragment(2, 1, 3, "b"), nothing(), 2)
	p.adds(t, 3, fragment(3, 2, 3, "c"), nothing(), 2)
	// The first one is begun anew, without what was there, and may have another Count.
	p.adds(t, 1, fragment(1, 1, 2, "A"), nothing(), 2)
	p.adds(t, 3, fragment(3, 1, 3, "c"), given("ccc"), 1)
	p.adds(t, 2, fragment(2, 2, 3, "b"), nothing(), 2) // it was dropped
	p.adds(t, 1, fragment(1, 0, 2, "a"), given("aA"), 1)
	p.adds(t, 2, fragment(2, 0, 3, "B"), nothing(), 1)
	p.adds(t, 2, fragment(2, 1, 3, "B"), given("BBb"), 0)
}

// With one string, each new one takes the place of the last one.
func TestDroppedFromOne(t *testing.T) {
	p := newPair(1)
	for id := range 5 {
		p.adds(t, 0, fragment(id, 0, 2, "a"), nothing(), 1)
	}
	p.adds(t, 0, fragment(4, 0, 2, "b"), failed(api.ErrFormat), 1)
	p.adds(t, 0, fragment(3, 1, 2, "b"), nothing(), 1)
	p.adds(t, 0, fragment(4, 1, 2, "b"), nothing(), 1)
	p.adds(t, 0, fragment(4, 0, 2, "a"), given("ab"), 0)
	p.adds(t, 0, fragment(3, 1, 2, "b"), nothing(), 1)
	p.adds(t, 0, fragment(3, 0, 2, "a"), given("ab"), 0)
}

// A string of one fragment needs no room, and one that is completed makes room.
func TestRoom(t *testing.T) {
	p := newPair(2)
	p.adds(t, 1, fragment(1, 0, 2, "a"), nothing(), 1)
	p.adds(t, 1, fragment(2, 0, 2, "b"), nothing(), 2)
	for id := 10; id < 15; id++ {
		p.adds(t, 1, fragment(id, 0, 1, "now"), given("now"), 2)
		p.adds(t, 1, fragment(id, 0, 1, "now"), nothing(), 2)
	}
	// Neither do fragments that have no effect, or an error.
	p.adds(t, 1, fragment(10, 0, 2, "x"), nothing(), 2)
	p.adds(t, 1, fragment(3, 2, 2, "x"), failed(api.ErrRange), 2)
	p.adds(t, 1, fragment(2, 1, 3, "x"), failed(api.ErrFormat), 2)
	p.adds(t, 1, fragment(1, 1, 2, "A"), given("aA"), 1)
	p.adds(t, 1, fragment(3, 0, 2, "c"), nothing(), 2)
	p.adds(t, 1, fragment(2, 1, 2, "B"), given("bB"), 1)
	p.adds(t, 1, fragment(4, 0, 2, "d"), nothing(), 2)
	p.adds(t, 1, fragment(5, 0, 2, "e"), nothing(), 2)
	p.adds(t, 1, fragment(4, 1, 2, "D"), given("dD"), 1)
	p.adds(t, 1, fragment(3, 1, 2, "C"), nothing(), 2) // it was dropped
	p.adds(t, 1, fragment(5, 1, 2, "E"), given("eE"), 1)
}

// The order of beginnings is that of the whole assembler, not of a sender or an Id.
func TestOrderOfBeginnings(t *testing.T) {
	p := newPair(3)
	begun := []call{{5, fragment(9, 0, 2, "a")}, {1, fragment(3, 0, 2, "b")}, {7, fragment(1, 0, 2, "c")}, {0, fragment(8, 0, 2, "d")}, {5, fragment(2, 0, 2, "e")}, {2, fragment(9, 0, 2, "f")}}
	for i, x := range begun {
		p.adds(t, x.from, x.f, nothing(), min(i+1, 3))
	}
	p.probe(t)
	p.adds(t, 2, fragment(9, 1, 2, "."), given("f."), 2)
	p.adds(t, 0, fragment(8, 1, 2, "."), given("d."), 1)
	p.adds(t, 5, fragment(2, 1, 2, "."), given("e."), 0)
	p.adds(t, 7, fragment(1, 1, 2, "."), nothing(), 1)
}

// The last 64 Ids are remembered, for each sender; the order is that in which
// they were completed.
func TestRemembered(t *testing.T) {
	p := newPair(8)
	one := func(from, id int) (int, api.Fragment) { return from, fragment(id, 0, 1, "x") }
	add := func(from, id int, want outcome) {
		t.Helper()
		f, x := one(from, id)
		p.adds(t, f, x, want, p.model.Open())
	}
	add(3, 100, given("x"))
	for id := range 63 {
		add(3, id, given("x"))
		add(3, 100, nothing())
	}
	for id := range 63 {
		add(3, id, nothing())
	}
	// Other senders have their own, and what is repeated is not completed anew.
	for id := range 200 {
		add(4, id, given("x"))
	}
	p.probe(t)
	add(3, 100, nothing())
	add(3, 63, given("x")) // the 65th
	add(3, 100, given("x"))
	add(3, 100, nothing())
	add(3, 0, given("x"))
	add(3, 1, given("x"))
	add(3, 3, nothing())
	add(3, 2, given("x"))
	add(3, 63, nothing())
	p.probe(t)
	for id := range 136 {
		add(4, 135-id, given("x"))
	}
	for id := range 64 {
		add(4, id, nothing())
	}
	add(4, 64, given("x"))
}

// An Id that is not remembered any more can be that of an incomplete string.
func TestForgotten(t *testing.T) {
	p := newPair(8)
	p.adds(t, 0, fragment(7, 0, 2, "a"), nothing(), 1)
	p.adds(t, 0, fragment(7, 1, 2, "b"), given("ab"), 0)
	for id := range 64 {
		p.adds(t, 0, fragment(7, 1, 3, "B"), nothing(), 0)
		p.adds(t, 0, fragment(100+id, 0, 1, ""), given(""), 0)
	}
	p.adds(t, 0, fragment(7, 1, 3, "B"), nothing(), 1)
	p.adds(t, 0, fragment(7, 1, 2, "b"), failed(api.ErrFormat), 1)
	p.adds(t, 0, fragment(7, 0, 3, "A"), nothing(), 1)
	p.adds(t, 0, fragment(7, 2, 3, "C"), given("ABC"), 0)
	p.adds(t, 0, fragment(7, 2, 3, "C"), nothing(), 0)
}

// What is dropped is not remembered.
func TestDroppedIsNotRemembered(t *testing.T) {
	p := newPair(1)
	for round := range 3 {
		p.adds(t, 0, fragment(1, 0, 2, "a"), nothing(), 1)
		p.adds(t, 0, fragment(2, round%2, 2, "b"), nothing(), 1)
	}
	p.adds(t, 0, fragment(2, 1, 2, "b"), given("bb"), 0)
}

// P15.7

func TestOpen(t *testing.T) {
	p := newPair(300)
	for from := range api.MaxNodes {
		for id := range 32 {
			p.adds(t, from, fragment(id, 1, 3, "x"), nothing(), 32*from+id+1)
			p.adds(t, from, fragment(id, 0, 3, "x"), nothing(), 32*from+id+1)
		}
	}
	p.adds(t, 0, fragment(32, 0, 2, "x"), nothing(), 256)
	p.adds(t, 0, fragment(0, 2, 3, "x"), nothing(), 256) // the first two were dropped, each by the one before
	for id := 2; id < 32; id++ {
		p.adds(t, 0, fragment(id, 2, 3, "x"), given("xxx"), 257-id)
	}
	p.probe(t)
}

func TestRandomCalls(t *testing.T) {
	r := rand.New(rand.NewSource(5))
	seen := map[string]int{}
	for range 1500 {
		x := newCaller(r)
		p := newPair(1 + r.Intn(1<<r.Intn(9)))
		for range 10 + r.Intn(500) {
			y := x.next()
			known := p.model.find(y.from, y.f.Id) != nil
			before := p.model.Open()
			o := p.run(t, y)
			seen[kindOf(o, known, p.model.Open()-before, p.model.find(y.from, y.f.Id) != nil)]++
		}
		p.probe(t)
	}
	for _, kind := range []string{"complete", "complete at once", "error 4", "error 2", "began", "began, dropped", "continued", "remembered"} {
		if seen[kind] < 1000 {
			t.Errorf("%s: %d calls", kind, seen[kind])
		}
	}
}

// kindOf tells what a call was about: by its outcome, whether its string was
// incomplete before and is after it, and how many incomplete strings more there
// are.
func kindOf(o outcome, before bool, more int, after bool) string {
	switch {
	case o.e != api.OK:
		return o.e.Error()
	case o.done && !before:
		return "complete at once"
	case o.done:
		return "complete"
	case before:
		return "continued"
	case !after:
		return "remembered"
	case more == 0:
		return "began, dropped"
	default:
		return "began"
	}
}
