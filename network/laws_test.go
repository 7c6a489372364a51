package network_test

import (
	"math/rand"
	"reflect"
	"slices"
	"strconv"
	"testing"

	"robotics/api"
	"robotics/network"
)

// P14.3 to P14.8, for random scripts and calls

func TestRandomCalls(t *testing.T) {
	r := rand.New(rand.NewSource(1))
	seen := map[string]int{}
	for range 3000 {
		x := newCaller(r)
		s := x.setup()
		p := s.pair(t)
		for range 20 + r.Intn(100) {
			y := x.next(s, p.model.earliest)
			before := len(p.model.pending)
			o := p.run(t, y)
			seen[kindOf(y, o, len(p.model.pending)-before)]++
			for range 3 {
				at, a, b := x.time(p.model.earliest), x.node(s.nodes), x.node(s.nodes)
				if got, want := p.network.Cut(at, a, b), p.model.Cut(at, a, b); got != want {
					t.Fatalf("%v: Cut(%d, %d, %d) = %v, want %v", s, at, a, b, got, want)
				}
				seen["cut "+strconv.FormatBool(p.model.Cut(at, a, b))]++
			}
		}
		p.run(t, receive(most))
	}
	for _, kind := range []string{
		"send, lost", "send, once", "send, twice", "send, often", "send, error 3", "send, error 4", "send, error 17",
		"receive, none", "receive, some", "receive, at the same time", "clear, none", "clear, some", "cut true", "cut false",
	} {
		if seen[kind] < 500 {
			t.Errorf("%s: %d calls", kind, seen[kind])
		}
	}
}

// kindOf tells what a call was about, by what it returned and by how many
// arrivals more, or less, are pending after it.
func kindOf(x call, o outcome, more int) string {
	switch {
	case o.e != api.OK:
		return "send, " + o.e.Error()
	case x.method == callSend:
		return []string{"send, lost", "send, once", "send, twice", "send, often"}[min(more, 3)]
	case x.method == callClear:
		return []string{"clear, none", "clear, some"}[min(-more, 1)]
	case len(o.arrivals) > 1 && o.arrivals[0].At == o.arrivals[1].At && o.arrivals[0].Number != o.arrivals[1].Number:
		return "receive, at the same time"
	default:
		return []string{"receive, none", "receive, some"}[min(-more, 1)]
	}
}

// ledger is what was sent on a network, by its number, and what arrived.
type ledger struct {
	t        *testing.T
	setup    setup
	sends    map[int]call
	arrivals []network.Arrival
	counts   map[int]int // of the arrivals of each transmission
}

func newLedger(t *testing.T, s setup) *ledger {
	return &ledger{t: t, setup: s, sends: map[int]call{}, counts: map[int]int{}}
}

// run makes a call and writes it down.
func (l *ledger) run(c carrier, x call) {
	o := x.on(c)
	if x.method == callSend && o.e == api.OK {
		l.sends[o.number] = x
	}
	for _, a := range o.arrivals {
		y, ok := l.sends[a.Number]
		if !ok || a.From != y.from || a.To != y.to || a.Data != y.data || a.At < y.a+l.setup.latency || a.At > x.a {
			l.t.Fatalf("%v: %v arrives, but sent was %v", l.setup, a, y)
		}
		l.counts[a.Number]++
	}
	l.arrivals = append(l.arrivals, o.arrivals...)
}

// P14.9

func TestWithoutFaults(t *testing.T) {
	r := rand.New(rand.NewSource(2))
	total := 0
	for range 1000 {
		x := newCaller(r)
		x.weights[callClear] = 0
		s := x.setup()
		s.faults = nil
		l, n := newLedger(t, s), s.network(t)
		for _, y := range x.calls(s, 20+r.Intn(150)) {
			l.run(n, y)
		}
		l.run(n, receive(most))
		if len(l.arrivals) != len(l.sends) || n.Sent() != len(l.sends) {
			t.Fatalf("%d arrivals of %d transmissions", len(l.arrivals), len(l.sends))
		}
		for i, a := range l.arrivals {
			y := l.sends[i+1]
			if a != arrival(y.a+s.latency, y.from, y.to, i+1, y.data) {
				t.Fatalf("arrival %d is %v, sent was %v with the latency %d", i, a, y, s.latency)
			}
		}
		total += len(l.arrivals)
	}
	if total < 20000 {
		t.Errorf("%d arrivals", total)
	}
}

// P14.10

func TestConservation(t *testing.T) {
	r := rand.New(rand.NewSource(3))
	total, several := 0, 0
	for range 3000 {
		x := newCaller(r)
		s := x.setup()
		duplicates := 0
		for _, f := range s.faults {
			if f.Kind == api.FDuplicate {
				duplicates++
			}
		}
		l, n := newLedger(t, s), s.network(t)
		for _, y := range x.calls(s, 20+r.Intn(100)) {
			l.run(n, y)
		}
		l.run(n, receive(most))
		for number, count := range l.counts {
			if count > 1+duplicates {
				t.Fatalf("%v: transmission %d arrives %d times", s, number, count)
			}
			if count > 1 {
				several++
			}
		}
		total += len(l.arrivals)
	}
	if total < 20000 || several < 2000 {
		t.Errorf("%d arrivals, %d transmissions that arrive several times", total, several)
	}
}

// P14.11

// steps returns random arguments that ascend, the last one of which is to.
func steps(r *rand.Rand, n *network.Network, to int) (list []int) {
	at, _ := n.Next()
	for at < to && r.Intn(30) > 0 {
		list = append(list, at)
		at += r.Intn(2 + min(to-at, 1<<50)/(1+r.Intn(10)))
	}
	return append(list, to)
}

func TestSeveralSteps(t *testing.T) {
	r := rand.New(rand.NewSource(4))
	some := 0
	for range 3000 {
		x := newCaller(r)
		x.weights = [methods]int{30, 1, 1}
		s := x.setup()
		one, other := s.network(t), s.network(t)
		for _, y := range x.calls(s, 5+r.Intn(80)) {
			y.on(one)
			y.on(other)
		}
		for _, to := range []int{x.any(0), s.latency + 20*x.reach, s.latency + 40*x.reach, most} {
			want := one.Receive(to)
			var got []network.Arrival
			parts := steps(r, other, to)
			for _, until := range parts {
				got = append(got, other.Receive(until)...)
			}
			if !slices.Equal(got, want) || stateOf(one) != stateOf(other) {
				t.Fatalf("%v: up to %d: %v, in several steps %v: %v", s, to, want, parts, got)
			}
			if len(want) > 5 && len(parts) > 3 {
				some++
			}
		}
	}
	if some < 1000 {
		t.Errorf("%d comparisons", some)
	}
}

// Each division of a short time into two and three steps.
func TestAllSteps(t *testing.T) {
	calls := []call{send(0, 0, 1, "a"), send(0, 1, 0, "b"), send(1, 0, 1, "c"), send(3, 0, 1, "d"), send(3, 0, 1, "e"), send(4, 1, 0, "f"), send(8, 0, 1, "g")}
	for _, faults := range [][]api.Fault{
		nil, {always(api.FDuplicate, 0, 1, 3)}, {fault(api.FDelay, 0, 1, 0, 2, 5)}, {always(api.FDuplicate, 1, 0, 0), always(api.FDuplicate, 0, 1, 6)},
		{fault(api.FDrop, 0, 1, 1, 3, 0), fault(api.FDelay, 1, 0, 0, 9, 4), fault(api.FDuplicate, 0, 1, 3, 5, 2)},
	} {
		s := setup{2, 2, faults}
		made := func() *network.Network {
			n := s.network(t)
			for _, x := range calls {
				x.on(n)
			}
			return n
		}
		want := made().Receive(12)
		if len(want) < 6 {
			t.Errorf("%v: %v", s, want)
		}
		for a := -1; a <= 12; a++ {
			for b := a; b <= 12; b++ {
				n := made()
				if got := slices.Concat(n.Receive(a), n.Receive(b), n.Receive(12)); !slices.Equal(got, want) {
					t.Errorf("%v: up to %d, %d and 12: %v, want %v", s, a, b, got, want)
				}
			}
		}
	}
}

// R1

func TestStrangeArguments(t *testing.T) {
	numbers := []int{least, least + 1, -api.MaxTime - 1, -1, 0, 1, 2, 7, 8, 9, api.MaxTime - 1, api.MaxTime, api.MaxTime + 1, most - 1, most}
	var calls []call
	for _, a := range numbers {
		calls = append(calls, receive(a), clearNode(a))
		for _, b := range numbers {
			for _, data := range []string{"", text(api.MaxText), text(api.MaxText + 1)} {
				calls = append(calls, send(a, b, 1, data), send(a, 1, b, data), send(0, a, b, data))
			}
		}
	}
	s := setup{api.MaxNodes, api.MaxTime, []api.Fault{always(api.FDelay, 0, 1, api.MaxTime), always(api.FDuplicate, 0, 1, api.MaxTime), always(api.FCut, 0, 2, 0)}}
	for _, x := range calls {
		plain(1).pair(t).run(t, x)
		p := s.pair(t)
		p.run(t, send(0, 0, 1, ""))
		p.run(t, x)
		p.run(t, receive(most))
	}
	p := s.pair(t)
	for _, at := range numbers {
		for _, a := range numbers {
			for _, b := range numbers {
				if p.network.Cut(at, a, b) != p.model.Cut(at, a, b) {
					t.Errorf("Cut(%d, %d, %d) = %v", at, a, b, p.network.Cut(at, a, b))
				}
			}
		}
	}
	r := rand.New(rand.NewSource(5))
	for range 200 {
		p := s.pair(t)
		for range 200 {
			p.run(t, calls[r.Intn(len(calls))])
		}
	}
}

// A Network that no function returned only terminates and does not panic.
func TestPlainNetworks(t *testing.T) {
	r := rand.New(rand.NewSource(6))
	for range 200 {
		x := newCaller(r)
		s := x.setup()
		var n network.Network
		for range 50 {
			x.next(s, 0).on(&n)
			n.Cut(x.any(5), x.any(5), x.any(5))
			stateOf(&n)
		}
		// a copy, which has the same arrivals
		one := s.network(t)
		for _, y := range x.calls(s, 50) {
			y.on(one)
		}
		other := *one
		for _, y := range x.calls(s, 100) {
			y.on([]carrier{one, &other}[r.Intn(2)])
			stateOf(one)
			stateOf(&other)
		}
	}
}

// R2

// A network on which the calls with errors are not made is the same.
func TestErrorsChangeNothing(t *testing.T) {
	r := rand.New(rand.NewSource(7))
	errors := 0
	for range 3000 {
		x := newCaller(r)
		s := x.setup()
		n, without, last := s.network(t), s.network(t), newModel(s)
		for range 80 {
			y := x.next(s, last.earliest)
			if r.Intn(4) == 0 {
				y = send(x.any(last.earliest), x.node(s.nodes), x.node(s.nodes), x.data())
			}
			y.on(last)
			before := stateOf(n)
			got := y.on(n)
			if got.e == api.OK {
				if want := y.on(without); !reflect.DeepEqual(got, want) {
					t.Fatalf("%v: %v = %v, without the errors %v", s, y.brief(), got.brief(), want.brief())
				}
				continue
			}
			errors++
			if got.number != 0 || stateOf(n) != before {
				t.Fatalf("%v: %v = %v: %v, then %v", s, y.brief(), got.brief(), before, stateOf(n))
			}
		}
		if got, want := n.Receive(most), without.Receive(most); !slices.Equal(got, want) || n.Sent() != without.Sent() {
			t.Fatalf("%v: %v, without the errors %v", s, got, want)
		}
	}
	if errors < 10000 {
		t.Errorf("%d errors", errors)
	}
}

// Looking changes nothing: a network that is never looked at is the same.
func TestLookingChangesNothing(t *testing.T) {
	r := rand.New(rand.NewSource(8))
	for range 500 {
		x := newCaller(r)
		s := x.setup()
		n, unseen := s.network(t), s.network(t)
		for _, y := range x.calls(s, 80) {
			at, a, b := x.any(0), x.node(s.nodes), x.node(s.nodes)
			if stateOf(n) != stateOf(n) || n.Cut(at, a, b) != n.Cut(at, a, b) {
				t.Fatalf("%v", stateOf(n))
			}
			if got, want := y.on(n), y.on(unseen); !reflect.DeepEqual(got, want) {
				t.Fatalf("%v: %v = %v, unseen %v", s, y.brief(), got.brief(), want.brief())
			}
		}
	}
}

// R3

func TestFaultsAreNotModified(t *testing.T) {
	r := rand.New(rand.NewSource(9))
	for range 500 {
		x := newCaller(r)
		s := x.setup()
		room := append(slices.Clone(s.faults), slices.Repeat([]api.Fault{{Kind: 77, A: -3}}, 5)...)
		before := slices.Clone(room)
		n := setup{s.nodes, s.latency, room[:len(s.faults)]}.network(t)
		for _, y := range x.calls(s, 60) {
			y.on(n)
		}
		if !slices.Equal(room, before) {
			t.Fatalf("%v became %v", before, room)
		}
	}
}

// What becomes of the faults after New is of no account.
func TestFaultsAreNotRetained(t *testing.T) {
	r := rand.New(rand.NewSource(10))
	for range 500 {
		x := newCaller(r)
		s := x.setup()
		faults := slices.Clone(s.faults)
		p := pair{setup{s.nodes, s.latency, faults}.network(t), newModel(s)}
		for i := range faults {
			faults[i] = always(1+r.Intn(4), 0, 1, 0)
		}
		for _, y := range x.calls(s, 60) {
			p.run(t, y)
			at := x.time(p.model.earliest)
			if p.network.Cut(at, 0, 1) != p.model.Cut(at, 0, 1) {
				t.Fatalf("%v: Cut(%d, 0, 1) = %v", s, at, p.network.Cut(at, 0, 1))
			}
		}
		p.run(t, receive(most))
	}
}

// overwrite writes over all of a list's memory.
func overwrite(list []network.Arrival) {
	list = list[:cap(list)]
	for i := range list {
		list[i] = arrival(-7, -7, -7, -7, "overwritten")
	}
}

func TestResultsAreNewMemory(t *testing.T) {
	r := rand.New(rand.NewSource(11))
	for range 1000 {
		x := newCaller(r)
		s := x.setup()
		p := s.pair(t)
		var kept, copies [][]network.Arrival
		for _, y := range x.calls(s, 80) {
			list := p.run(t, y).arrivals
			if r.Intn(2) == 0 {
				overwrite(list)
				p.look(t)
			} else {
				kept, copies = append(kept, list), append(copies, slices.Clone(list))
			}
		}
		p.run(t, receive(most))
		for i := range kept {
			if !slices.Equal(kept[i], copies[i]) {
				t.Fatalf("%v became %v", copies[i], kept[i])
			}
		}
	}
}

// R4

func TestNilNetworks(t *testing.T) {
	var none *network.Network
	for range 2 {
		for _, a := range []int{least, -1, 0, 1, 2, api.MaxTime, api.MaxTime + 1, most} {
			for _, b := range []int{-1, 0, 1, most} {
				for _, data := range []string{"", "a", text(api.MaxText + 1)} {
					if got := send(a, b, 1, data).on(none); !reflect.DeepEqual(got, failed(api.ErrNone)) {
						t.Errorf("Send(%d, %d, 1) on a nil network = %v", a, b, got)
					}
				}
				if none.Cut(a, 0, b) || none.Cut(0, a, b) {
					t.Errorf("Cut(%d, %d) on a nil network", a, b)
				}
			}
			for _, x := range []call{receive(a), clearNode(a)} {
				if got := x.on(none); !reflect.DeepEqual(got, done()) {
					t.Errorf("%v on a nil network = %v", x, got)
				}
			}
		}
		if got := stateOf(none); got != (state{}) {
			t.Errorf("a nil network is %v", got)
		}
	}
}

// R7

// Networks do not know of each other, also those of the same faults.
func TestNetworksAreIndependent(t *testing.T) {
	r := rand.New(rand.NewSource(12))
	for range 200 {
		x := newCaller(r)
		s := x.setup()
		pairs := []pair{s.pair(t), s.pair(t), x.setup().pair(t)}
		for range 200 {
			p := pairs[r.Intn(len(pairs))]
			p.run(t, x.next(p.model.setup, p.model.earliest))
			for _, q := range pairs {
				q.look(t)
			}
		}
	}
}

// The same calls have the same outcomes.
func TestCallsAreDeterministic(t *testing.T) {
	r := rand.New(rand.NewSource(13))
	for range 300 {
		x := newCaller(r)
		x.weights[callClear] = 1
		s := x.setup()
		calls := append(x.calls(s, 80), clearNode(0), receive(most))
		var first []outcome
		for round := range 5 {
			n := s.network(t)
			for i, y := range calls {
				o := y.on(n)
				if round == 0 {
					first = append(first, o)
				} else if !reflect.DeepEqual(o, first[i]) {
					t.Fatalf("%v: %v = %v, then %v", s, y.brief(), first[i].brief(), o.brief())
				}
			}
		}
	}
}
