package network_test

import (
	"reflect"
	"slices"
	"strings"
	"testing"

	"robotics/api"
	"robotics/network"
)

const (
	least = -1 << 63
	most  = 1<<63 - 1

	// full is the number of pending arrivals with which nothing can be sent.
	full = 1 << 16
)

// carrier is what a network can do; the model is one, too.
type carrier interface {
	Send(at, from, to int, data string) (int, api.Errno)
	Next() (int, bool)
	Receive(until int) []network.Arrival
	Sent() int
	Cut(at, a, b int) bool
	Clear(node int)
}

// The methods that can change a network.
const (
	callSend = iota
	callReceive
	callClear
	methods
)

// call is a call of such a method.
type call struct {
	method, a, from, to int
	data                string
}

func send(at, from, to int, data string) call { return call{callSend, at, from, to, data} }
func receive(until int) call                  { return call{method: callReceive, a: until} }
func clearNode(node int) call                 { return call{method: callClear, a: node} }

// outcome is what a call returns.
type outcome struct {
	number   int
	arrivals []network.Arrival
	e        api.Errno
}

func (x call) on(c carrier) (o outcome) {
	switch x.method {
	case callSend:
		o.number, o.e = c.Send(x.a, x.from, x.to, x.data)
	case callReceive:
		o.arrivals = c.Receive(x.a)
	case callClear:
		c.Clear(x.a)
	}
	if len(o.arrivals) == 0 {
		o.arrivals = nil
	}
	return o
}

// brief leaves out most of a long text and of many arrivals.
func (x call) brief() call {
	x.data = x.data[:min(len(x.data), 8)]
	return x
}

func (o outcome) brief() any {
	if len(o.arrivals) <= 8 {
		return o
	}
	return []any{o.number, len(o.arrivals), o.arrivals[:4], o.arrivals[len(o.arrivals)-4:], o.e}
}

// The outcomes of calls.

func number(k int) outcome { return outcome{number: k} }

func failed(e api.Errno) outcome { return outcome{e: e} }

func done() outcome { return outcome{} }

func arrived(list ...network.Arrival) outcome { return outcome{arrivals: list} }

// arrival returns an arrival.
func arrival(at, from, to, number int, data string) network.Arrival {
	return network.Arrival{At: at, From: from, To: to, Number: number, Data: data}
}

// text returns a text of so many bytes.
func text(n int) string { return strings.Repeat("x", n) }

// state is what can be seen of a network without changing it.
type state struct {
	next    int
	hasNext bool
	sent    int
}

func stateOf(c carrier) (s state) {
	s.next, s.hasNext = c.Next()
	s.sent = c.Sent()
	return s
}

// setup is what a network is made of.
type setup struct {
	nodes, latency int
	faults         []api.Fault
}

// fault returns a fault; always returns one that is in force until MaxTime.
func fault(kind, a, b, from, until, extra int) api.Fault {
	return api.Fault{Kind: kind, A: a, B: b, From: from, Until: until, Extra: extra}
}

func always(kind, a, b, extra int) api.Fault { return fault(kind, a, b, 0, api.MaxTime, extra) }

// pair is a network with a model of it, on which the same calls are made.
type pair struct {
	network *network.Network
	model   *model
}

func (s setup) pair(t *testing.T) pair {
	t.Helper()
	return pair{s.network(t), newModel(s)}
}

func (s setup) network(t *testing.T) *network.Network {
	t.Helper()
	n, e := network.New(s.nodes, s.latency, s.faults)
	if n == nil || e != api.OK {
		t.Fatalf("New(%v) = %v, %v", s, n, e)
	}
	return n
}

// plain is a network of so many nodes with the latency 10.
func plain(nodes int, faults ...api.Fault) setup { return setup{nodes, 10, faults} }

// run makes a call, checks the network against the model, and returns the outcome.
func (p pair) run(t *testing.T, x call) outcome {
	t.Helper()
	got, want := x.on(p.network), x.on(p.model)
	if !reflect.DeepEqual(got, want) {
		t.Fatalf("%v = %v, want %v", x.brief(), got.brief(), want.brief())
	}
	p.look(t)
	return got
}

// look checks what can be seen of the network against the model.
func (p pair) look(t *testing.T) {
	t.Helper()
	if got, want := stateOf(p.network), stateOf(p.model); got != want {
		t.Fatalf("the network is %v, want %v", got, want)
	}
}

// step is a call with its outcome.
type step struct {
	x    call
	want outcome
}

// play makes calls on a new network. The outcomes that are written out hold for
// the model, too.
func (s setup) play(t *testing.T, steps ...step) pair {
	t.Helper()
	p := s.pair(t)
	p.play(t, steps...)
	return p
}

func (p pair) play(t *testing.T, steps ...step) {
	t.Helper()
	for i, s := range steps {
		if got := p.run(t, s.x); !reflect.DeepEqual(got, s.want) {
			t.Fatalf("step %d: %v = %v, want %v", i, s.x.brief(), got.brief(), s.want.brief())
		}
	}
}

// expect checks what can be seen of the network.
func (p pair) expect(t *testing.T, want state) {
	t.Helper()
	if got := stateOf(p.network); got != want {
		t.Fatalf("the network is %v, want %v", got, want)
	}
}

// fill sends so many times from one node to another, at a time and at each one
// after it. It does not look at each call, which is slow for many arrivals.
func (p pair) fill(t *testing.T, at, from, to, times int) {
	t.Helper()
	for k := range times {
		x := send(at+k, from, to, "")
		if got, want := x.on(p.network), x.on(p.model); got.number != want.number || got.e != api.OK || want.e != api.OK {
			t.Fatalf("%v = %v, want %v", x, got, want)
		}
	}
	p.look(t)
}

// sendAll makes the calls, none of which may have an error, and returns what
// arrives in the end.
func (s setup) sendAll(t *testing.T, calls ...call) []network.Arrival {
	t.Helper()
	p := s.pair(t)
	for _, x := range calls {
		if o := p.run(t, x); o.e != api.OK {
			t.Fatalf("%v = %v", x.brief(), o.e)
		}
	}
	return p.run(t, receive(most)).arrivals
}

// timesOf returns the times of arrivals.
func timesOf(list []network.Arrival) (times []int) {
	for _, a := range list {
		times = append(times, a.At)
	}
	return times
}

// arrivesAt checks when what is sent from one node to another arrives.
func (s setup) arrivesAt(t *testing.T, at, from, to int, want ...int) {
	t.Helper()
	list := s.sendAll(t, send(at, from, to, "data"))
	if got := timesOf(list); !slices.Equal(got, want) {
		t.Errorf("%v: from %d to %d at %d: arrives at %v, want %v", s.faults, from, to, at, got, want)
	}
	for _, a := range list {
		if a.From != from || a.To != to || a.Number != 1 || a.Data != "data" {
			t.Errorf("%v: from %d to %d at %d: %v", s.faults, from, to, at, a)
		}
	}
}
