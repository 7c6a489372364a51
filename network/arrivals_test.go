package network_test

import (
	"math/rand"
	"slices"
	"testing"

	"robotics/api"
	"robotics/network"
)

// P14.4

func TestNext(t *testing.T) {
	p := plain(2, fault(api.FDelay, 0, 1, 0, 5, 40), fault(api.FDrop, 1, 0, 0, 50, 0)).pair(t)
	next := func(at int, x call) {
		t.Helper()
		p.run(t, x)
		if a, ok := p.network.Next(); a != at || !ok {
			t.Errorf("after %v: Next = %d, %v, want %d", x, a, ok, at)
		}
	}
	none := func(x call) {
		t.Helper()
		p.run(t, x)
		if a, ok := p.network.Next(); a != 0 || ok {
			t.Errorf("after %v: Next = %d, %v", x, a, ok)
		}
	}
	none(receive(0))
	none(send(0, 1, 0, "lost"))
	none(send(0, 0, 2, "error"))
	next(50, send(0, 0, 1, ""))
	next(50, send(0, 1, 0, "lost"))
	next(50, send(3, 0, 1, ""))
	next(15, send(5, 0, 1, "")) // before what was sent before it
	next(15, send(5, 0, 1, ""))
	next(15, send(6, 0, 1, ""))
	next(15, receive(14))
	next(16, receive(15))
	next(16, receive(3))
	next(50, receive(49))
	next(53, receive(50))
	next(53, send(50, 1, 0, ""))
	none(receive(60))
	next(90, send(80, 1, 0, ""))
	next(90, clearNode(2))
	none(clearNode(0))
	next(100, send(90, 0, 1, ""))
}

func TestNextAtLimits(t *testing.T) {
	p := setup{2, 0, nil}.play(t, step{send(0, 0, 1, ""), number(1)})
	p.expect(t, state{0, true, 1}) // the time is 0, but there is one
	p.play(t, step{receive(-1), done()})
	p.expect(t, state{0, true, 1})
	p.play(t, step{receive(0), arrived(arrival(0, 0, 1, 1, ""))})
	p.expect(t, state{sent: 1})

	p = setup{2, api.MaxTime, nil}.play(t, step{send(api.MaxTime, 0, 1, ""), number(1)})
	p.expect(t, state{2 * api.MaxTime, true, 1})
	p.play(t, step{receive(2*api.MaxTime - 1), done()}, step{receive(2 * api.MaxTime), arrived(arrival(2*api.MaxTime, 0, 1, 1, ""))})
}

// P14.5

func TestReceive(t *testing.T) {
	plain(3).play(t,
		step{receive(0), done()}, step{receive(-1), done()}, step{receive(least), done()},
		step{send(1, 0, 1, "a"), number(1)}, step{send(2, 1, 0, "b"), number(2)}, step{send(2, 0, 1, "c"), number(3)}, step{send(4, 2, 0, "d"), number(4)},
		// an argument below every time
		step{receive(least), done()}, step{receive(-1), done()}, step{receive(0), done()}, step{receive(10), done()},
		step{receive(11), arrived(arrival(11, 0, 1, 1, "a"))}, step{receive(11), done()},
		// several at the same time
		step{receive(13), arrived(arrival(12, 1, 0, 2, "b"), arrival(12, 0, 1, 3, "c"))}, step{receive(13), done()},
		// an argument that is less than an earlier one
		step{receive(5), done()}, step{receive(12), done()}, step{receive(least), done()},
		step{send(13, 0, 2, "e"), number(5)}, step{receive(12), done()},
		step{receive(most), arrived(arrival(14, 2, 0, 4, "d"), arrival(23, 0, 2, 5, "e"))},
		step{receive(most), done()}, step{receive(0), done()},
	)
}

// What arrives at the time up to which was received before.
func TestReceiveAtTheSameTime(t *testing.T) {
	setup{2, 0, nil}.play(t,
		step{receive(7), done()}, step{send(7, 0, 1, "a"), number(1)}, step{receive(6), done()},
		step{receive(7), arrived(arrival(7, 0, 1, 1, "a"))}, step{receive(7), done()},
		step{send(7, 0, 1, "b"), number(2)}, step{send(7, 1, 0, "c"), number(3)}, step{receive(7), arrived(arrival(7, 0, 1, 2, "b"), arrival(7, 1, 0, 3, "c"))},
		step{send(8, 0, 1, "d"), number(4)}, step{receive(7), done()}, step{receive(8), arrived(arrival(8, 0, 1, 4, "d"))},
	)
}

// By time, at the same time by number; a transmission may overtake others.
func TestOrderOfArrivals(t *testing.T) {
	s := plain(3, fault(api.FDelay, 0, 1, 0, 1, 30), fault(api.FDelay, 1, 0, 0, 1, 30), fault(api.FDelay, 0, 1, 10, 11, 20), fault(api.FDelay, 1, 2, 0, 100, 5))
	got := s.sendAll(t,
		send(0, 0, 1, "a"), send(0, 1, 0, "b"), send(9, 0, 1, "c"), send(10, 0, 1, "d"), send(20, 1, 2, "e"), send(20, 1, 0, "f"),
		send(30, 1, 2, "g"), send(30, 0, 1, "h"), send(30, 2, 0, "i"),
	)
	want := []network.Arrival{
		arrival(19, 0, 1, 3, "c"), arrival(30, 1, 0, 6, "f"), arrival(35, 1, 2, 5, "e"),
		arrival(40, 0, 1, 1, "a"), arrival(40, 1, 0, 2, "b"), arrival(40, 0, 1, 4, "d"), arrival(40, 0, 1, 8, "h"), arrival(40, 2, 0, 9, "i"),
		arrival(45, 1, 2, 7, "g"),
	}
	if !slices.Equal(got, want) {
		t.Errorf("%v, want %v", got, want)
	}
}

// The original, its duplicates, and other transmissions at the same times.
func TestOrderOfDuplicates(t *testing.T) {
	s := plain(2, always(api.FDuplicate, 0, 1, 8), always(api.FDuplicate, 0, 1, 0), always(api.FDuplicate, 0, 1, 3), always(api.FDuplicate, 1, 0, 3))
	got := s.sendAll(t, send(0, 0, 1, "a"), send(0, 1, 0, "b"), send(3, 0, 1, "c"), send(8, 1, 0, "d"))
	want := []network.Arrival{
		arrival(10, 0, 1, 1, "a"), arrival(10, 0, 1, 1, "a"), arrival(10, 1, 0, 2, "b"),
		arrival(13, 0, 1, 1, "a"), arrival(13, 1, 0, 2, "b"), arrival(13, 0, 1, 3, "c"), arrival(13, 0, 1, 3, "c"),
		arrival(16, 0, 1, 3, "c"), arrival(18, 0, 1, 1, "a"), arrival(18, 1, 0, 4, "d"), arrival(21, 0, 1, 3, "c"), arrival(21, 1, 0, 4, "d"),
	}
	if !slices.Equal(got, want) {
		t.Errorf("%v, want %v", got, want)
	}
}

// Duplicates are received each at its own time.
func TestDuplicatesInSeveralSteps(t *testing.T) {
	x := func(at int) network.Arrival { return arrival(at, 1, 0, 1, "x") }
	plain(2, always(api.FDuplicate, 1, 0, 9), always(api.FDuplicate, 1, 0, 4), always(api.FDuplicate, 1, 0, 4)).play(t,
		step{send(0, 1, 0, "x"), number(1)}, step{receive(9), done()}, step{receive(10), arrived(x(10))}, step{receive(13), done()},
		step{receive(14), arrived(x(14), x(14))}, step{receive(18), done()}, step{receive(19), arrived(x(19))}, step{receive(most), done()},
	)
}

// Many arrivals whose times descend while those of their sending ascend.
func TestManyArrivals(t *testing.T) {
	var faults []api.Fault
	for k := range api.MaxFaults {
		faults = append(faults, fault(api.FDelay, 0, 1, 100*k, 100*k+100, 200*(api.MaxFaults-k)))
	}
	p := plain(2, faults...).pair(t)
	p.fill(t, 0, 0, 1, 100*api.MaxFaults)
	for until := 0; ; until += 777 {
		p.run(t, receive(until))
		if _, ok := p.network.Next(); !ok {
			break
		}
	}
}

// A full network is emptied step by step, and filled again.
func TestFullIsEmptied(t *testing.T) {
	n := setup{2, 1 << 20, nil}.network(t)
	now := 0
	for round := range 2 {
		for range full {
			now++
			n.Send(now, 0, 1, "")
		}
		for k := range full {
			at, ok := n.Next()
			list := n.Receive(at)
			if !ok || len(list) != 1 || list[0].Number != round*full+k+1 || list[0].At != at {
				t.Fatalf("%d: Next = %d, %v, Receive = %v", k, at, ok, list)
			}
			now = at
		}
	}
}

// P14.6

func TestSent(t *testing.T) {
	p := plain(2, fault(api.FDrop, 0, 1, 5, 6, 0), fault(api.FCut, 0, 1, 6, 7, 0), fault(api.FDuplicate, 0, 1, 7, 8, 0)).pair(t)
	for _, x := range []struct {
		x    call
		sent int
	}{
		{receive(0), 0}, {send(0, 0, 0, ""), 0}, {send(0, 0, 1, text(4001)), 0}, {send(-1, 0, 1, ""), 0},
		{send(4, 0, 1, ""), 1}, {send(3, 0, 1, ""), 1}, {send(4, 0, 2, ""), 1}, {send(5, 0, 1, "lost"), 2}, {send(6, 1, 0, "lost"), 3},
		{send(7, 0, 1, "twice"), 4}, {receive(17), 4}, {clearNode(0), 4}, {clearNode(9), 4}, {send(16, 0, 1, ""), 4}, {send(17, 1, 0, ""), 5}, {receive(most), 5},
	} {
		p.run(t, x.x)
		if n := p.network.Sent(); n != x.sent {
			t.Errorf("after %v: Sent = %d, want %d", x.x.brief(), n, x.sent)
		}
	}
}

// P14.7

// cuts checks Cut in both orders.
func cuts(t *testing.T, n *network.Network, at, a, b int, want bool) {
	t.Helper()
	if n.Cut(at, a, b) != want || n.Cut(at, b, a) != want {
		t.Errorf("Cut(%d, %d, %d) = %v, %v, want %v", at, a, b, n.Cut(at, a, b), n.Cut(at, b, a), want)
	}
}

func TestCut(t *testing.T) {
	n := plain(4, fault(api.FCut, 2, 0, 50, 60, 0), fault(api.FCut, 1, 3, 0, api.MaxTime, 0), fault(api.FCut, 0, 3, 70, 70, 0)).network(t)
	for _, x := range []struct {
		at   int
		want bool
	}{
		{least, false}, {-1, false}, {0, false}, {49, false}, {50, true}, {51, true}, {59, true}, {60, false}, {61, false}, {api.MaxTime, false}, {most, false},
	} {
		cuts(t, n, x.at, 0, 2, x.want)
		cuts(t, n, x.at, 0, 1, false)
		cuts(t, n, x.at, 1, 2, false)
		cuts(t, n, x.at, 2, 3, false)
	}
	for _, at := range []int{0, 1, 55, api.MaxTime - 1} {
		cuts(t, n, at, 1, 3, true)
	}
	for _, at := range []int{least, -1, api.MaxTime, api.MaxTime + 1, most} {
		cuts(t, n, at, 1, 3, false)
	}
	for _, at := range []int{69, 70, 71} {
		cuts(t, n, at, 0, 3, false) // never in force
	}
}

func TestCutWithoutNodes(t *testing.T) {
	for _, nodes := range []int{2, 3, api.MaxNodes} {
		n := plain(nodes, always(api.FCut, 0, nodes-1, 0)).network(t)
		cuts(t, n, 5, 0, nodes-1, true)
		for _, strange := range []int{least, -1, nodes, api.MaxNodes, most} {
			for _, other := range []int{least, -1, 0, nodes - 1, nodes, most} {
				cuts(t, n, 5, strange, other, false)
			}
		}
		for a := range nodes {
			cuts(t, n, 5, a, a, false)
		}
	}
	n := plain(1).network(t)
	cuts(t, n, 5, 0, 0, false)
	cuts(t, n, 5, 0, 1, false)
}

// Only an FCut is a cut, also beside others.
func TestCutIsAKind(t *testing.T) {
	for _, kind := range []int{api.FDrop, api.FDelay, api.FDuplicate} {
		cuts(t, plain(2, always(kind, 0, 1, 0), always(kind, 1, 0, 0)).network(t), 5, 0, 1, false)
		n := plain(2, always(kind, 0, 1, 0), fault(api.FCut, 1, 0, 5, 7, 0), fault(api.FCut, 0, 1, 6, 9, 0), always(kind, 1, 0, 0)).network(t)
		for at, want := range []bool{4: false, 5: true, 6: true, 7: true, 8: true, 9: false} {
			cuts(t, n, at, 0, 1, want)
		}
	}
}

// Cut does not depend on the calls before it.
func TestCutOfAnyTime(t *testing.T) {
	p := plain(2, fault(api.FCut, 0, 1, 50, 60, 0)).pair(t)
	for _, x := range []call{receive(0), send(55, 0, 1, ""), receive(100), send(200, 1, 0, ""), clearNode(0), receive(most)} {
		p.run(t, x)
		cuts(t, p.network, 49, 0, 1, false)
		cuts(t, p.network, 50, 0, 1, true)
		cuts(t, p.network, 60, 0, 1, false)
	}
}

// Nothing arrives that is sent while there is a cut.
func TestCutIsOfSends(t *testing.T) {
	r := rand.New(rand.NewSource(20))
	for range 300 {
		x := newCaller(r)
		s := x.setup()
		s.latency = min(s.latency, api.MaxTime/2)
		for range 40 {
			at, from := x.r.Intn(60*x.reach), r.Intn(s.nodes)
			to := (from + 1 + r.Intn(s.nodes-1)) % s.nodes
			n := s.network(t)
			m := newModel(s)
			if n.Cut(at, from, to) != m.Cut(at, from, to) {
				t.Fatalf("%v: Cut(%d, %d, %d)", s, at, from, to)
			}
			if n.Cut(at, from, to) {
				s.arrivesAt(t, at, from, to)
			}
		}
	}
}

// P14.8

// crossed returns a network of four nodes on which each has sent to each other
// one.
func crossed(t *testing.T) pair {
	p := plain(4, always(api.FDuplicate, 0, 1, 5)).pair(t)
	for from := range 4 {
		for to := range 4 {
			if from != to {
				p.run(t, send(from, from, to, ""))
			}
		}
	}
	return p
}

func TestClear(t *testing.T) {
	for node := range 4 {
		p := crossed(t)
		all := crossed(t).run(t, receive(most)).arrivals
		p.play(t, step{clearNode(node), done()})
		var want []network.Arrival
		for _, a := range all {
			if a.From != node && a.To != node {
				want = append(want, a)
			}
		}
		p.expect(t, state{want[0].At, true, 12})
		// the same node once more
		p.play(t, step{clearNode(node), done()}, step{receive(most), arrived(want...)}, step{clearNode(node), done()}, step{receive(most), done()})
	}
}

func TestClearOfNoNode(t *testing.T) {
	for _, node := range []int{least, -1, 4, api.MaxNodes, api.MaxNodes + 1, most} {
		p := crossed(t)
		before := stateOf(p.network)
		p.play(t, step{clearNode(node), done()})
		p.expect(t, before)
		if l := p.run(t, receive(most)).arrivals; len(l) != 13 {
			t.Errorf("after Clear(%d): %v", node, l)
		}
		plain(4).play(t, step{clearNode(node), done()}, step{send(0, 0, 1, ""), number(1)})
	}
}

func TestSendAfterClear(t *testing.T) {
	p := plain(3).play(t,
		step{clearNode(0), done()}, step{send(5, 0, 1, "a"), number(1)}, step{send(6, 1, 2, "b"), number(2)}, step{send(6, 2, 0, "c"), number(3)},
		step{clearNode(0), done()},
		// the time and the numbers go on
		step{send(5, 0, 1, ""), failed(api.ErrTime)}, step{send(6, 0, 1, "d"), number(4)}, step{send(6, 1, 2, "e"), number(5)},
		step{receive(16), arrived(arrival(16, 1, 2, 2, "b"), arrival(16, 0, 1, 4, "d"), arrival(16, 1, 2, 5, "e"))},
		step{clearNode(1), done()}, step{send(15, 0, 1, ""), failed(api.ErrTime)}, step{send(16, 1, 0, "f"), number(6)},
		step{receive(26), arrived(arrival(26, 1, 0, 6, "f"))},
	)
	p.play(t, step{send(30, 0, 1, ""), number(7)}, step{send(31, 0, 2, ""), number(8)}, step{clearNode(1), done()})
	p.expect(t, state{41, true, 8})
	p.play(t, step{clearNode(2), done()})
	p.expect(t, state{sent: 8})
}

// What is cleared in the middle of the others that arrive at its time.
func TestClearAmongOthers(t *testing.T) {
	p := plain(4).play(t,
		step{send(0, 0, 1, "a"), number(1)}, step{send(0, 2, 3, "b"), number(2)}, step{send(0, 1, 0, "c"), number(3)}, step{send(0, 3, 2, "d"), number(4)},
		step{send(0, 1, 2, "e"), number(5)}, step{send(0, 3, 0, "f"), number(6)}, step{send(4, 1, 0, "g"), number(7)}, step{send(8, 0, 2, "h"), number(8)},
	)
	p.play(t, step{clearNode(1), done()}, step{send(9, 3, 0, "i"), number(9)}, step{receive(10), arrived(
		arrival(10, 2, 3, 2, "b"), arrival(10, 3, 2, 4, "d"), arrival(10, 3, 0, 6, "f"))},
	)
	p.play(t, step{clearNode(2), done()}, step{receive(most), arrived(arrival(19, 3, 0, 9, "i"))})
}
