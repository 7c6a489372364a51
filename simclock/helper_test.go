package simclock_test

import (
	"reflect"
	"slices"
	"testing"

	"robotics/api"
	"robotics/simclock"
)

const (
	least = -1 << 63
	most  = 1<<63 - 1
)

// clock is what a clock can do; the model is one, too.
type clock interface {
	Now() int
	Add(at int) (int, api.Errno)
	Every(first, period int) (int, api.Errno)
	Cancel(id int) api.Errno
	Next() (int, bool)
	Advance(to int) ([]simclock.Timer, api.Errno)
	Pending() []simclock.Timer
}

// The methods that can change a clock.
const (
	callAdd = iota
	callEvery
	callCancel
	callAdvance
	methods
)

// call is a call of such a method.
type call struct{ method, a, b int }

func add(at int) call              { return call{callAdd, at, 0} }
func every(first, period int) call { return call{callEvery, first, period} }
func cancel(id int) call           { return call{callCancel, id, 0} }
func advance(to int) call          { return call{callAdvance, to, 0} }

// fill returns the same call so many times.
func fill(x call, n int) []call { return slices.Repeat([]call{x}, n) }

// outcome is what a call returns.
type outcome struct {
	id      int
	firings []simclock.Timer
	e       api.Errno
}

func (x call) on(c clock) (o outcome) {
	switch x.method {
	case callAdd:
		o.id, o.e = c.Add(x.a)
	case callEvery:
		o.id, o.e = c.Every(x.a, x.b)
	case callCancel:
		o.e = c.Cancel(x.a)
	case callAdvance:
		o.firings, o.e = c.Advance(x.a)
	}
	if len(o.firings) == 0 {
		o.firings = nil
	}
	return o
}

// The outcomes of calls.

func number(id int) outcome { return outcome{id: id} }

func failed(e api.Errno) outcome { return outcome{e: e} }

func done() outcome { return outcome{} }

// fired is the outcome with the firings of these numbers and times.
func fired(pairs ...int) outcome { return outcome{firings: firings(pairs...)} }

func firings(pairs ...int) (list []simclock.Timer) {
	for i := 0; i < len(pairs); i += 2 {
		list = append(list, simclock.Timer{Id: pairs[i], At: pairs[i+1]})
	}
	return list
}

// state is what can be seen of a clock without changing it.
type state struct {
	now, next int
	hasNext   bool
	pending   []simclock.Timer
}

func stateOf(c clock) (s state) {
	s.now, s.pending = c.Now(), c.Pending()
	s.next, s.hasNext = c.Next()
	if len(s.pending) == 0 {
		s.pending = nil
	}
	return s
}

// step is a call with its outcome.
type step struct {
	x    call
	want outcome
}

// pair is a clock with a model of it, on which the same calls are made.
type pair struct {
	clock *simclock.Clock
	model *model
}

func newPair() pair { return pair{simclock.New(), newModel()} }

// run makes a call, checks the clock against the model, and returns the outcome.
func (p pair) run(t *testing.T, x call) outcome {
	t.Helper()
	got, want := x.on(p.clock), x.on(p.model)
	if !reflect.DeepEqual(got, want) {
		t.Fatalf("%v = %v, want %v", x, brief(got), brief(want))
	}
	p.look(t)
	return got
}

// look checks what can be seen of the clock against the model.
func (p pair) look(t *testing.T) {
	t.Helper()
	if got, want := stateOf(p.clock), stateOf(p.model); !reflect.DeepEqual(got, want) {
		t.Fatalf("the clock is %v, want %v", got, want)
	}
}

// brief leaves out most firings of an outcome with many.
func brief(o outcome) any {
	if len(o.firings) <= 8 {
		return o
	}
	return []any{o.id, len(o.firings), o.firings[:4], o.firings[len(o.firings)-4:], o.e}
}

// prepared returns a new clock after these calls, none of which has an error.
func prepared(t *testing.T, calls ...call) pair {
	t.Helper()
	p := newPair()
	for _, x := range calls {
		if o := p.run(t, x); o.e != api.OK {
			t.Fatalf("%v = %v", x, o.e)
		}
	}
	return p
}

// play makes calls on a new clock. The outcomes that are written out hold for
// the model, too.
func play(t *testing.T, steps ...step) pair {
	t.Helper()
	p := newPair()
	p.play(t, steps...)
	return p
}

func (p pair) play(t *testing.T, steps ...step) {
	t.Helper()
	for i, s := range steps {
		if got := p.run(t, s.x); !reflect.DeepEqual(got, s.want) {
			t.Fatalf("step %d: %v = %v, want %v", i, s.x, brief(got), brief(s.want))
		}
	}
}

// expect checks what can be seen of the clock: the next firings, by pairs.
func (p pair) expect(t *testing.T, now int, pairs ...int) {
	t.Helper()
	want := state{now: now, pending: firings(pairs...)}
	if len(want.pending) > 0 {
		want.next, want.hasNext = want.pending[0].At, true
	}
	if got := stateOf(p.clock); !reflect.DeepEqual(got, want) {
		t.Fatalf("the clock is %v, want %v", got, want)
	}
}
