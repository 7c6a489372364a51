package simclock_test

import (
	"math/rand"
	"reflect"
	"slices"
	"testing"

	"robotics/api"
	"robotics/simclock"
)

// P13.3

// ledger is what the calls on a clock say of each timer.
type ledger struct {
	t       *testing.T
	timers  map[int]*entry
	firings []simclock.Timer // of all calls, in their order
}

type entry struct {
	added, first, period int
	times                []int // of the firings
	canceled             bool
	until                int // up to which it has to have fired, or -1
}

// run makes a call and writes it down.
func (l *ledger) run(c clock, x call) {
	now := c.Now()
	o := x.on(c)
	if o.e != api.OK {
		return
	}
	switch x.method {
	case callAdd, callEvery:
		l.timers[o.id] = &entry{added: now, first: x.a, period: x.b, until: -1}
	case callCancel:
		l.timers[x.a].canceled = true
	case callAdvance:
		for _, y := range l.timers {
			if !y.canceled {
				y.until = x.a
			}
		}
	}
	for _, f := range o.firings {
		y := l.timers[f.Id]
		if y == nil || y.canceled || f.At < now || f.At > x.a || f.At < y.added {
			l.t.Fatalf("the timer %v fires at %d in %v at %d", y, f.At, x, now)
		}
		y.times = append(y.times, f.At)
	}
	l.firings = append(l.firings, o.firings...)
}

// check checks all that is written down.
func (l *ledger) check() {
	for i := range len(l.firings) - 1 {
		a, b := l.firings[i], l.firings[i+1]
		if a.At > b.At || a.At == b.At && a.Id >= b.Id {
			l.t.Fatalf("%v before %v", a, b)
		}
	}
	for id, y := range l.timers {
		if due := y.due(); !slices.Equal(due, y.times) {
			l.t.Fatalf("timer %d, %v, does not fire at %v", id, *y, due)
		}
	}
}

// due returns the times at which a timer has to have fired.
func (y *entry) due() (times []int) {
	for at := y.first; at <= y.until; at += y.period {
		times = append(times, at)
		if y.period == 0 {
			break
		}
	}
	return times
}

func TestFiringsOfSuccessiveCalls(t *testing.T) {
	r := rand.New(rand.NewSource(2))
	total := 0
	for range 3000 {
		c, x, l := simclock.New(), newCaller(r), &ledger{t: t, timers: map[int]*entry{}}
		for range 20 + r.Intn(100) {
			l.run(c, x.next(c.Now(), len(l.timers)))
		}
		l.check()
		total += len(l.firings)
	}
	if total < 100000 {
		t.Errorf("%d firings", total)
	}
}

func TestEachTimerFiresOnce(t *testing.T) {
	r := rand.New(rand.NewSource(3))
	for range 500 {
		c, at := simclock.New(), map[int]int{}
		for range api.MaxTasks {
			n := r.Intn(100)
			id, _ := c.Add(n)
			at[id] = n
		}
		seen := map[int]int{}
		for c.Now() < 100 {
			list, e := c.Advance(c.Now() + r.Intn(10))
			if e != api.OK {
				t.Fatal(e)
			}
			for _, x := range list {
				if at[x.Id] != x.At {
					t.Fatalf("%v, but it is due at %d", x, at[x.Id])
				}
				seen[x.Id]++
			}
		}
		for id := range at {
			if seen[id] != 1 || c.Cancel(id) != api.ErrNone {
				t.Fatalf("timer %d fires %d times", id, seen[id])
			}
		}
	}
}

// A periodic timer does not drift, however the clock advances.
func TestNoDrift(t *testing.T) {
	r := rand.New(rand.NewSource(4))
	for range 300 {
		c := simclock.New()
		first, period := r.Intn(1000), 1+r.Intn(1<<r.Intn(30))
		if _, e := c.Every(first, period); e != api.OK {
			t.Fatal(e)
		}
		c.Every(r.Intn(5), 1+period/2) // another one beside it
		k := 0
		for k < 1000 {
			list, e := c.Advance(min(c.Now()+r.Intn(3*period), api.MaxTime))
			if e != api.OK {
				t.Fatal(e)
			}
			for _, x := range list {
				if x.Id == 2 {
					continue
				}
				if x.Id != 1 || x.At != first+k*period {
					t.Fatalf("Every(%d, %d): firing %d is at %d", first, period, k, x.At)
				}
				k++
			}
			if next := slices.Index(c.Pending(), simclock.Timer{Id: 1, At: first + k*period}); next < 0 {
				t.Fatalf("Every(%d, %d): after %d firings, pending is %v", first, period, k, c.Pending())
			}
			if c.Now() == api.MaxTime {
				break
			}
		}
	}
}

// P13.4

// setup returns calls that add timers and move a clock on.
func setup(r *rand.Rand, reach int) (calls []call) {
	x := caller{r: r, weights: [methods]int{3, 4, 1, 2}, reach: reach, strange: 1 << 20}
	c := simclock.New()
	last := 0
	for range 1 + r.Intn(30) {
		y := x.next(c.Now(), last)
		if o := y.on(c); o.e == api.OK {
			calls = append(calls, y)
			last = max(last, o.id)
		}
	}
	return calls
}

func TestSeveralSteps(t *testing.T) {
	r := rand.New(rand.NewSource(5))
	compared, some := 0, 0
	for range 6000 {
		reach := 1 << r.Intn(38)
		calls := setup(r, reach)
		one, other := prepared(t, calls...).clock, prepared(t, calls...).clock
		to := one.Now() + r.Intn(4*reach)
		want := advance(to).on(one)
		if want.e != api.OK {
			continue
		}
		var got []simclock.Timer
		for other.Now() < to {
			next := min(to, other.Now()+r.Intn(1+reach))
			if r.Intn(3) == 0 { // to a firing, or just before it
				if at, ok := other.Next(); ok && at <= to {
					next = max(other.Now(), at-r.Intn(2))
				}
			}
			list, e := other.Advance(next)
			if e != api.OK {
				t.Fatalf("a part: %v", e)
			}
			got = append(got, list...)
		}
		// The time may be reached before: what is due at it has fired then.
		list, e := other.Advance(to)
		got = append(got, list...)
		if !slices.Equal(got, want.firings) || e != api.OK || !reflect.DeepEqual(stateOf(one), stateOf(other)) {
			t.Fatalf("%v to %d: in one step %v, in several %v", calls, to, brief(want), brief(outcome{firings: got}))
		}
		compared++
		if len(got) > 10 {
			some++
		}
	}
	if compared < 2000 || some < 1000 {
		t.Errorf("%d comparisons, %d with several firings", compared, some)
	}
}

// Each division of a short time into two and three steps.
func TestAllSteps(t *testing.T) {
	for _, calls := range [][]call{
		nil, {add(0), add(12)}, {every(0, 1)}, {every(3, 2), every(1, 3), add(5), add(6)}, {every(12, 1), add(11), every(0, 12)}, {advance(2), add(2), every(2, 5)},
	} {
		whole := prepared(t, calls...)
		want := whole.run(t, advance(12)).firings
		for a := whole.startOf(calls); a <= 12; a++ {
			for b := a; b <= 12; b++ {
				p := prepared(t, calls...)
				var got []simclock.Timer
				for _, to := range []int{a, b, 12} {
					got = append(got, p.run(t, advance(to)).firings...)
				}
				if !slices.Equal(got, want) {
					t.Errorf("%v: to %d, %d and 12: %v, want %v", calls, a, b, got, want)
				}
			}
		}
	}
}

// startOf returns the time of a clock after these calls.
func (p pair) startOf(calls []call) (now int) {
	for _, x := range calls {
		if x.method == callAdvance {
			now = x.a
		}
	}
	return now
}

// R1

func TestStrangeArguments(t *testing.T) {
	numbers := []int{least, least + 1, -api.MaxTime - 1, -api.MaxTime, -4097, -1, 0, 1, 2, 63, 64, 65, 4095, 4096, 4097, api.MaxTime - 1, api.MaxTime, api.MaxTime + 1, 1 << 41, most - 1, most}
	var calls []call
	for _, a := range numbers {
		calls = append(calls, add(a), cancel(a), advance(a))
		for _, b := range numbers {
			calls = append(calls, every(a, b))
		}
	}
	for _, x := range calls {
		newPair().run(t, x)
		prepared(t, fill(every(0, 1), api.MaxTasks)...).run(t, x)
		prepared(t, advance(api.MaxTime), every(api.MaxTime, api.MaxTime), advance(api.MaxTime)).run(t, x)
	}
	r := rand.New(rand.NewSource(6))
	for range 100 {
		p := newPair()
		for range 300 {
			p.run(t, calls[r.Intn(len(calls))])
		}
	}
}

// A Clock that no function returned only terminates and does not panic.
func TestPlainClocks(t *testing.T) {
	r := rand.New(rand.NewSource(7))
	for range 100 {
		x := newCaller(r)
		var c simclock.Clock
		for last := range 200 {
			x.next(c.Now(), last).on(&c)
			stateOf(&c)
		}
		// a copy, which has the same timers
		d := c
		for last := range 200 {
			x.next(c.Now(), last).on(&c)
			x.next(d.Now(), last).on(&d)
			stateOf(&c)
			stateOf(&d)
		}
	}
}

// R2

// A clock on which the calls with errors are not made is the same.
func TestErrorsChangeNothing(t *testing.T) {
	r := rand.New(rand.NewSource(8))
	errors := 0
	for range 1500 {
		c, without, x := simclock.New(), simclock.New(), newCaller(r)
		last := 0
		for range 100 {
			y := x.next(c.Now(), last)
			before := stateOf(c)
			got := y.on(c)
			last = max(last, got.id)
			if got.e == api.OK {
				if want := y.on(without); !reflect.DeepEqual(got, want) {
					t.Fatalf("%v = %v, without the errors %v", y, brief(got), brief(want))
				}
				continue
			}
			errors++
			if got.id != 0 || got.firings != nil || !reflect.DeepEqual(before, stateOf(c)) {
				t.Fatalf("%v = %v: %v, then %v", y, brief(got), before, stateOf(c))
			}
		}
		if !reflect.DeepEqual(stateOf(c), stateOf(without)) {
			t.Fatalf("%v, without the errors %v", stateOf(c), stateOf(without))
		}
	}
	if errors < 10000 {
		t.Errorf("%d errors", errors)
	}
}

// Looking changes nothing: a clock that is never looked at is the same.
func TestLookingChangesNothing(t *testing.T) {
	r := rand.New(rand.NewSource(9))
	for range 500 {
		c, unseen, x := simclock.New(), simclock.New(), newCaller(r)
		last := 0
		for range 100 {
			y := x.next(c.Now(), last)
			if !reflect.DeepEqual(stateOf(c), stateOf(c)) {
				t.Fatalf("%v", stateOf(c))
			}
			got, want := y.on(c), y.on(unseen)
			last = max(last, got.id)
			if !reflect.DeepEqual(got, want) {
				t.Fatalf("%v = %v, unseen %v", y, brief(got), brief(want))
			}
		}
	}
}

// R3

// overwrite writes over all of a list's memory.
func overwrite(list []simclock.Timer) {
	list = list[:cap(list)]
	for i := range list {
		list[i] = simclock.Timer{Id: -7, At: -9}
	}
}

func TestResultsAreNewMemory(t *testing.T) {
	r := rand.New(rand.NewSource(10))
	for range 500 {
		p, x := newPair(), newCaller(r)
		var kept, copies [][]simclock.Timer
		for range 60 {
			o := p.run(t, x.next(p.clock.Now(), p.model.last))
			pending := p.clock.Pending()
			for _, list := range [][]simclock.Timer{o.firings, pending} {
				if r.Intn(2) == 0 {
					overwrite(list)
				} else {
					kept, copies = append(kept, list), append(copies, slices.Clone(list))
				}
			}
			p.look(t)
		}
		for i := range kept {
			if !slices.Equal(kept[i], copies[i]) {
				t.Fatalf("%v became %v", copies[i], kept[i])
			}
		}
	}
}

func TestResultsShareNoMemory(t *testing.T) {
	p := prepared(t, add(1), every(2, 3), every(2, 5))
	first, second := p.clock.Pending(), p.clock.Pending()
	overwrite(first)
	if !slices.Equal(second, firings(1, 1, 2, 2, 3, 2)) {
		t.Errorf("Pending = %v", second)
	}
	overwrite(second)
	list, _ := p.clock.Advance(2)
	if !slices.Equal(list, firings(1, 1, 2, 2, 3, 2)) {
		t.Errorf("Advance = %v", list)
	}
	third := p.clock.Pending()
	overwrite(list)
	if !slices.Equal(third, firings(2, 5, 3, 7)) || !slices.Equal(p.clock.Pending(), third) {
		t.Errorf("Pending = %v, then %v", third, p.clock.Pending())
	}
}

// R4

func TestNilClocks(t *testing.T) {
	var none *simclock.Clock
	for range 2 {
		for _, a := range []int{least, -1, 0, 1, 5, api.MaxTime, api.MaxTime + 1, most} {
			for _, x := range []call{add(a), every(a, 1), every(a, 0), every(0, a), cancel(a), advance(a)} {
				if got := x.on(none); !reflect.DeepEqual(got, failed(api.ErrNone)) {
					t.Errorf("%v on a nil clock = %v", x, got)
				}
			}
		}
		if got := stateOf(none); !reflect.DeepEqual(got, state{}) {
			t.Errorf("a nil clock is %v", got)
		}
	}
}

// R7

// Clocks do not know of each other.
func TestClocksAreIndependent(t *testing.T) {
	r := rand.New(rand.NewSource(11))
	for range 200 {
		pairs := []pair{newPair(), newPair(), newPair()}
		x := newCaller(r)
		for range 200 {
			p := pairs[r.Intn(len(pairs))]
			p.run(t, x.next(p.clock.Now(), p.model.last))
			for _, q := range pairs {
				q.look(t)
			}
		}
	}
}

// The same calls have the same outcomes.
func TestCallsAreDeterministic(t *testing.T) {
	for seed := range int64(200) {
		one, other := simclock.New(), simclock.New()
		x, y := newCaller(rand.New(rand.NewSource(seed))), newCaller(rand.New(rand.NewSource(seed)))
		for last := range 100 {
			got, want := x.next(one.Now(), last).on(one), y.next(other.Now(), last).on(other)
			if !reflect.DeepEqual(got, want) || !reflect.DeepEqual(stateOf(one), stateOf(other)) {
				t.Fatalf("%v, then %v", brief(got), brief(want))
			}
		}
	}
}
