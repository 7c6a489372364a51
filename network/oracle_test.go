package network_test

import (
	"cmp"
	"math/rand"
	"slices"
	"strconv"

	"robotics/api"
	"robotics/network"
)

// model is a network that keeps the pending arrivals in any order, with what
// decides about theirs, and sorts them when they are received.
type model struct {
	setup
	sent     int
	earliest int
	pending  []underWay
}

// underWay is a pending arrival. The rank of the original is 0, that of a
// duplicate is the place of its fault, from 1 on.
type underWay struct {
	network.Arrival
	rank int
}

func newModel(s setup) *model { return &model{setup: s} }

// inForce returns the places of the faults of a kind from a to b at a time.
func (m *model) inForce(kind, at, a, b int) (places []int) {
	for k, f := range m.faults {
		if f.Kind == kind && f.A == a && f.B == b && f.From <= at && at < f.Until {
			places = append(places, k)
		}
	}
	return places
}

func (m *model) Cut(at, a, b int) bool {
	return len(m.inForce(api.FCut, at, a, b))+len(m.inForce(api.FCut, at, b, a)) > 0
}

// between reports whether low <= n <= high.
func between(n, low, high int) bool { return low <= n && n <= high }

func (m *model) sendError(at, from, to int, data string) api.Errno {
	for _, x := range []struct {
		wrong bool
		e     api.Errno
	}{
		{!between(from, 0, m.nodes-1) || !between(to, 0, m.nodes-1) || from == to, api.ErrRange},
		{!between(at, 0, api.MaxTime), api.ErrRange},
		{len(data) > api.MaxText, api.ErrLong},
		{at < m.earliest, api.ErrTime},
		{len(m.pending) >= full, api.ErrFull},
	} {
		if x.wrong {
			return x.e
		}
	}
	return api.OK
}

func (m *model) Send(at, from, to int, data string) (int, api.Errno) {
	if e := m.sendError(at, from, to, data); e != api.OK {
		return 0, e
	}
	m.sent++
	m.earliest = max(m.earliest, at)
	if m.Cut(at, from, to) || len(m.inForce(api.FDrop, at, from, to)) > 0 {
		return m.sent, api.OK
	}
	original := at + m.latency
	for _, k := range m.inForce(api.FDelay, at, from, to) {
		original += m.faults[k].Extra
	}
	m.put(network.Arrival{At: original, From: from, To: to, Number: m.sent, Data: data}, 0)
	for _, k := range m.inForce(api.FDuplicate, at, from, to) {
		m.put(network.Arrival{At: original + m.faults[k].Extra, From: from, To: to, Number: m.sent, Data: data}, k+1)
	}
	return m.sent, api.OK
}

func (m *model) put(a network.Arrival, rank int) {
	m.pending = append(m.pending, underWay{a, rank})
}

func (m *model) Next() (int, bool) {
	at, ok := 0, false
	for _, x := range m.pending {
		if !ok || x.At < at {
			at, ok = x.At, true
		}
	}
	return at, ok
}

func (m *model) Receive(until int) (list []network.Arrival) {
	m.earliest = max(m.earliest, until)
	var due, left []underWay
	for _, x := range m.pending {
		if x.At <= until {
			due = append(due, x)
		} else {
			left = append(left, x)
		}
	}
	m.pending = left
	slices.SortFunc(due, func(x, y underWay) int {
		return cmp.Or(cmp.Compare(x.At, y.At), cmp.Compare(x.Number, y.Number), cmp.Compare(x.rank, y.rank))
	})
	for _, x := range due {
		list = append(list, x.Arrival)
	}
	return list
}

func (m *model) Sent() int { return m.sent }

func (m *model) Clear(node int) {
	m.pending = slices.DeleteFunc(m.pending, func(x underWay) bool { return x.From == node || x.To == node })
}

// valid reports whether a fault is one of a network with so many nodes.
func valid(nodes int, f api.Fault) bool {
	for _, right := range []bool{
		between(nodes, 1, api.MaxNodes),
		between(f.Kind, api.FDrop, api.FCut),
		between(f.A, 0, nodes-1), between(f.B, 0, nodes-1), f.A != f.B,
		0 <= f.From, f.From <= f.Until, f.Until <= api.MaxTime,
		between(f.Extra, 0, api.MaxTime),
		f.Kind != api.FDrop || f.Extra == 0,
		f.Kind != api.FCut || f.Extra == 0,
	} {
		if !right {
			return false
		}
	}
	return true
}

// caller makes random scripts and calls. How often a method is called and how
// far the times are from each other is its own.
type caller struct {
	r       *rand.Rand
	weights [methods]int
	reach   int // of times, from the last one on
	strange int // one in so many arguments is any number
}

func newCaller(r *rand.Rand) caller {
	x := caller{r: r, reach: 1 << r.Intn(10), strange: 1 << (4 + r.Intn(8))}
	if r.Intn(8) == 0 {
		x.reach = 1 << (25 + r.Intn(10))
	}
	x.weights = [methods]int{2 + r.Intn(10), 1 + r.Intn(4), r.Intn(2)}
	return x
}

// setup returns a random setup whose faults are in force at times near those of
// calls.
func (x caller) setup() setup {
	s := setup{nodes: 2 + x.r.Intn(api.MaxNodes-1), latency: x.r.Intn(2 * x.reach)}
	if x.r.Intn(2) == 0 {
		s.nodes = 2 + x.r.Intn(2)
	}
	if x.r.Intn(8) == 0 {
		s.latency = []int{0, api.MaxTime}[x.r.Intn(2)]
	}
	few := 1 + x.r.Intn(api.MaxFaults)
	for range x.r.Intn(few) {
		s.faults = append(s.faults, x.fault(s.nodes))
	}
	return s
}

func (x caller) fault(nodes int) api.Fault {
	f := api.Fault{Kind: 1 + x.r.Intn(4), A: x.r.Intn(nodes), From: x.r.Intn(60 * x.reach)}
	f.B = (f.A + 1 + x.r.Intn(nodes-1)) % nodes
	long := 8 * x.reach // not more, so that not all is lost
	if f.Kind == api.FDelay || f.Kind == api.FDuplicate {
		long = 40 * x.reach
		f.Extra = x.r.Intn(5 * x.reach)
	}
	f.Until = min(f.From+x.r.Intn(long), api.MaxTime)
	if f.Extra > 0 && x.r.Intn(40) == 0 {
		f.Extra = api.MaxTime
	}
	return f
}

// next returns a call that suits a network in which this was the last time.
func (x caller) next(s setup, last int) call {
	k := x.r.Intn(x.weights[callSend] + x.weights[callReceive] + x.weights[callClear])
	switch {
	case k < x.weights[callSend]:
		from := x.node(s.nodes)
		to := x.node(s.nodes)
		if from == to && x.r.Intn(8) > 0 {
			to = (from + 1) % s.nodes
		}
		return send(x.time(last), from, to, x.data())
	case k < x.weights[callSend]+x.weights[callReceive]:
		return receive(x.until(last))
	default:
		return clearNode(x.node(s.nodes))
	}
}

// calls returns so many calls that suit a network, and that it is told the
// times of: they go on from one another, as far as they have no error.
func (x caller) calls(s setup, count int) (list []call) {
	m := newModel(s)
	for range count {
		y := x.next(s, m.earliest)
		y.on(m)
		list = append(list, y)
	}
	return list
}

func (x caller) node(nodes int) int {
	if x.r.Intn(x.strange) == 0 {
		return x.any(nodes)
	}
	return x.r.Intn(nodes)
}

func (x caller) time(last int) int {
	if x.r.Intn(x.strange) == 0 {
		return x.any(last)
	}
	return last + x.r.Intn(x.reach)
}

// until returns a time up to which is received. It is rarely far away, because
// nothing can be sent before it.
func (x caller) until(last int) int {
	if x.r.Intn(x.strange) == 0 {
		return last - x.r.Intn(x.reach)
	}
	if x.r.Intn(20*x.strange) == 0 {
		return x.any(last)
	}
	return last + x.r.Intn(3*x.reach)
}

func (x caller) data() string {
	if x.r.Intn(x.strange) == 0 {
		return text(api.MaxText + x.r.Intn(2))
	}
	return strconv.Itoa(x.r.Intn(1000))
}

// any returns a number that is near a limit, or any one.
func (x caller) any(n int) int {
	list := []int{n - 1, n, n + 1, -1, 0, 1, api.MaxNodes, api.MaxTime - 1, api.MaxTime, api.MaxTime + 1, least, most, int(x.r.Uint64()), x.r.Intn(api.MaxTime)}
	return list[x.r.Intn(len(list))]
}
