package simclock_test

import (
	"math/rand"
	"testing"

	"robotics/api"
)

// P13.1, Next

func TestNext(t *testing.T) {
	next := func(p pair, at int, ok bool) {
		t.Helper()
		if a, o := p.clock.Next(); a != at || o != ok {
			t.Errorf("Next = %d, %v, want %d, %v", a, o, at, ok)
		}
	}
	p := newPair()
	next(p, 0, false)
	p.play(t, step{advance(3), fired()})
	next(p, 0, false)
	p.play(t, step{add(9), number(1)})
	next(p, 9, true)
	p.play(t, step{every(9, 4), number(2)}, step{add(9), number(3)})
	next(p, 9, true)
	p.play(t, step{add(8), number(4)})
	next(p, 8, true)
	p.play(t, step{add(3), number(5)})
	next(p, 3, true) // it is due
	p.play(t, step{advance(3), fired(5, 3)})
	next(p, 8, true)
	p.play(t, step{cancel(4), done()})
	next(p, 9, true)
	p.play(t, step{cancel(1), done()}, step{advance(9), fired(2, 9, 3, 9)})
	next(p, 13, true)
	p.play(t, step{cancel(2), done()})
	next(p, 0, false)
	p.play(t, step{add(9), number(6)}, step{advance(9), fired(6, 9)})
	next(p, 0, false)
}

func TestNextBeyondTheEndOfTime(t *testing.T) {
	for _, period := range []int{1, 5, api.MaxTime - 1, api.MaxTime} {
		p := prepared(t, every(api.MaxTime, period), advance(api.MaxTime))
		for range 3 {
			p.expect(t, api.MaxTime, 1, api.MaxTime+period)
			if at, ok := p.clock.Next(); at != api.MaxTime+period || !ok {
				t.Errorf("Next = %d, %v", at, ok)
			}
			p.play(t, step{advance(api.MaxTime), fired()}, step{advance(api.MaxTime + 1), failed(api.ErrRange)}, step{advance(api.MaxTime + period), failed(api.ErrRange)})
		}
		p.play(t, step{cancel(1), done()})
		p.expect(t, api.MaxTime)
	}
}

// P13.1, Advance

func TestAdvanceToATime(t *testing.T) {
	for _, x := range timesAndErrors {
		p := prepared(t, advance(100), add(100), add(101), add(api.MaxTime), every(5000, api.MaxTime/2))
		if x.e != api.OK {
			p.play(t, step{advance(x.at), failed(x.e)})
			p.expect(t, 100, 1, 100, 2, 101, 4, 5000, 3, api.MaxTime)
			continue
		}
		p.run(t, advance(x.at))
		if p.clock.Now() != x.at {
			t.Errorf("Now = %d, want %d", p.clock.Now(), x.at)
		}
		p.play(t, step{advance(x.at - 1), failed(api.ErrRange)}, step{advance(x.at), fired()})
	}
}

func TestAdvanceOnANewClock(t *testing.T) {
	for _, x := range []step{
		{advance(-1), failed(api.ErrRange)}, {advance(0), fired()}, {advance(1), fired()}, {advance(api.MaxTime), fired()},
		{advance(api.MaxTime + 1), failed(api.ErrRange)}, {advance(least), failed(api.ErrRange)}, {advance(most), failed(api.ErrRange)},
	} {
		play(t, x)
	}
}

// Up to a time, including it.
func TestAdvanceJustBefore(t *testing.T) {
	play(t,
		step{add(10), number(1)}, step{every(10, 5), number(2)}, step{advance(9), fired()}, step{advance(10), fired(1, 10, 2, 10)},
		step{advance(10), fired()}, step{advance(14), fired()}, step{advance(15), fired(2, 15)}, step{advance(24), fired(2, 20)},
	)
}

// A timer that is added when it is due fires when the time does not move.
func TestAdvanceToNow(t *testing.T) {
	p := prepared(t, add(0), every(0, 2))
	p.play(t, step{advance(0), fired(1, 0, 2, 0)}, step{advance(0), fired()}, step{add(0), number(3)}, step{advance(0), fired(3, 0)})
	p.expect(t, 0, 2, 2)
	p.play(t, step{advance(2), fired(2, 2)}, step{every(2, 1), number(4)}, step{add(2), number(5)}, step{advance(2), fired(4, 2, 5, 2)}, step{advance(2), fired()})
}

// By time, and at the same time by number, in whichever order they are added.
func TestFiringOrder(t *testing.T) {
	play(t,
		step{add(7), number(1)}, step{add(3), number(2)}, step{add(7), number(3)}, step{add(0), number(4)}, step{add(3), number(5)},
		step{advance(7), fired(4, 0, 2, 3, 5, 3, 1, 7, 3, 7)},
	)
	play(t,
		step{every(6, 6), number(1)}, step{every(4, 4), number(2)}, step{every(3, 3), number(3)}, step{add(12), number(4)}, step{every(12, 1), number(5)},
		step{advance(12), fired(3, 3, 2, 4, 1, 6, 3, 6, 2, 8, 3, 9, 1, 12, 2, 12, 3, 12, 4, 12, 5, 12)},
		step{advance(13), fired(5, 13)}, step{advance(16), fired(5, 14, 3, 15, 5, 15, 2, 16, 5, 16)},
	)
	// The number decides, not when the next firing became known.
	play(t,
		step{every(1, 9), number(1)}, step{add(10), number(2)}, step{every(9, 1), number(3)}, step{every(5, 5), number(4)},
		step{advance(10), fired(1, 1, 4, 5, 3, 9, 1, 10, 2, 10, 3, 10, 4, 10)},
	)
}

func TestPeriods(t *testing.T) {
	play(t, step{every(0, 1), number(1)}, step{advance(3), fired(1, 0, 1, 1, 1, 2, 1, 3)}, step{advance(4), fired(1, 4)})
	play(t, step{every(2, 1), number(1)}, step{advance(1), fired()}, step{advance(4), fired(1, 2, 1, 3, 1, 4)})
	p := play(t, step{every(0, api.MaxTime), number(1)}, step{advance(api.MaxTime - 1), fired(1, 0)}, step{advance(api.MaxTime), fired(1, api.MaxTime)})
	p.expect(t, api.MaxTime, 1, 2*api.MaxTime)
	p = play(t, step{every(0, api.MaxTime), number(1)}, step{advance(api.MaxTime), fired(1, 0, 1, api.MaxTime)})
	p.expect(t, api.MaxTime, 1, 2*api.MaxTime)
	p = play(t, step{every(1, api.MaxTime), number(1)}, step{advance(api.MaxTime), fired(1, 1)})
	p.expect(t, api.MaxTime, 1, api.MaxTime+1)
	p = play(t, step{every(1, api.MaxTime-1), number(1)}, step{advance(api.MaxTime), fired(1, 1, 1, api.MaxTime)})
	p.expect(t, api.MaxTime, 1, 2*api.MaxTime-1)
}

// ErrLong

// enough checks that a clock can advance to a time with exactly MaxEvents
// firings, and that one more timer at this time is too much.
func enough(t *testing.T, to int, calls ...call) {
	t.Helper()
	p := prepared(t, calls...)
	got := p.run(t, advance(to))
	if len(got.firings) != api.MaxEvents || got.e != api.OK || p.clock.Now() != to {
		t.Errorf("Advance(%d) = %d firings, %v", to, len(got.firings), got.e)
	}
	for _, more := range []call{add(0), add(to), every(to, 1), every(0, api.MaxTime)} {
		p := prepared(t, append(calls, more)...)
		before := pairsOf(p.clock.Pending())
		p.play(t, step{advance(to), failed(api.ErrLong)}, step{advance(to), failed(api.ErrLong)})
		p.expect(t, 0, before...)
		// Less than that is still possible, and then the rest.
		first := p.run(t, advance(to/2))
		second := p.run(t, advance(to))
		if n := len(first.firings) + len(second.firings); n <= api.MaxEvents || first.e != api.OK || second.e != api.OK {
			t.Errorf("%d firings, %v, %v", n, first.e, second.e)
		}
	}
}

func TestEnough(t *testing.T) {
	enough(t, 4095, every(0, 1))
	enough(t, 4096, every(1, 1))
	enough(t, 40950+9, every(0, 10))
	enough(t, api.MaxTime, every(1, 1<<28))
	enough(t, 2047, every(0, 1), every(0, 1))
	enough(t, 65, append(fill(every(1, 1), 62), every(0, 1))...)
	enough(t, 66, append(fill(every(1, 1), 62), every(63, 1))...)
	enough(t, 3000, every(0, 1), every(3, 3), add(5), add(7), every(3000, 1), every(2909, 1))
}

func TestEnoughOfAFullClock(t *testing.T) {
	timers := fill(every(0, 1), api.MaxTasks)
	p := prepared(t, timers...)
	p.play(t, step{advance(64), failed(api.ErrLong)})
	if got := p.run(t, advance(63)); len(got.firings) != api.MaxEvents {
		t.Errorf("%d firings, %v", len(got.firings), got.e)
	}
	timers[20] = every(1, 1)
	p = prepared(t, timers...)
	p.play(t, step{advance(64), failed(api.ErrLong)})
	if got := p.run(t, advance(63)); len(got.firings) != api.MaxEvents-1 {
		t.Errorf("%d firings, %v", len(got.firings), got.e)
	}
}

func TestTooLong(t *testing.T) {
	for _, calls := range [][]call{
		{every(0, 1)}, {every(0, 1<<28)}, {every(0, api.MaxTime/4096)}, fill(every(0, 1), api.MaxTasks),
		fill(every(api.MaxTime-64, 1), api.MaxTasks), {add(5), every(7, 1), add(9)},
	} {
		p := prepared(t, calls...)
		before := pairsOf(p.clock.Pending())
		p.play(t,
			step{advance(api.MaxTime), failed(api.ErrLong)},
			// ErrRange is before ErrLong.
			step{advance(api.MaxTime + 1), failed(api.ErrRange)}, step{advance(-1), failed(api.ErrRange)},
			step{advance(most), failed(api.ErrRange)}, step{advance(least), failed(api.ErrRange)},
		)
		p.expect(t, 0, before...)
	}
}

// The clock is as it was, and can be used.
func TestAfterTooLong(t *testing.T) {
	p := prepared(t, add(3), every(2, 1), advance(2))
	p.play(t, step{advance(5000), failed(api.ErrLong)})
	p.expect(t, 2, 1, 3, 2, 3)
	p.play(t, step{add(3), number(3)}, step{advance(3), fired(1, 3, 2, 3, 3, 3)}, step{advance(5000), failed(api.ErrLong)})
	p.play(t, step{add(2), failed(api.ErrRange)}, step{cancel(1), failed(api.ErrNone)}, step{cancel(2), done()}, step{advance(5000), fired()})
}

// The limit is for each call, not for all of them.
func TestManyFiringsInManyCalls(t *testing.T) {
	p := prepared(t, every(1, 1))
	for k := 1; k <= 20; k++ {
		p.play(t, step{advance(k*api.MaxEvents + 1), failed(api.ErrLong)})
		if got := p.run(t, advance(k*api.MaxEvents)); len(got.firings) != api.MaxEvents || got.firings[api.MaxEvents-1].At != k*api.MaxEvents {
			t.Fatalf("%v", brief(got))
		}
	}
}

// P13.1, Pending

func TestPending(t *testing.T) {
	p := newPair()
	p.expect(t, 0)
	p.run(t, add(9))
	p.expect(t, 0, 1, 9)
	p.run(t, every(4, 3))
	p.expect(t, 0, 2, 4, 1, 9)
	p.run(t, add(9))
	p.run(t, add(4))
	p.run(t, every(9, 9))
	p.run(t, add(0))
	p.expect(t, 0, 6, 0, 2, 4, 4, 4, 1, 9, 3, 9, 5, 9)
	p.run(t, advance(4))
	p.expect(t, 4, 2, 7, 1, 9, 3, 9, 5, 9)
	p.run(t, cancel(3))
	p.expect(t, 4, 2, 7, 1, 9, 5, 9)
	p.run(t, cancel(2))
	p.expect(t, 4, 1, 9, 5, 9)
	p.run(t, advance(9))
	p.expect(t, 9, 5, 18)
	p.run(t, add(18))
	p.run(t, add(17))
	p.expect(t, 9, 8, 17, 5, 18, 7, 18)
	p.run(t, cancel(5))
	p.run(t, cancel(7))
	p.run(t, cancel(8))
	p.expect(t, 9)
}

// P13.1 and P13.2, for random calls.
func TestRandomCalls(t *testing.T) {
	r := rand.New(rand.NewSource(1))
	type kind struct {
		method int
		e      api.Errno
	}
	seen := map[kind]int{}
	many, far, twice := 0, 0, 0
	for range 2500 {
		p, x := newPair(), newCaller(r)
		for range 20 + r.Intn(150) {
			y := x.next(p.clock.Now(), p.model.last)
			o := p.run(t, y)
			seen[kind{y.method, o.e}]++
			if len(o.firings) > 100 {
				many++
			}
			if len(o.firings) > 1 && o.firings[0].At == o.firings[1].At {
				twice++
			}
			if at, _ := p.clock.Next(); at > api.MaxTime {
				far++
			}
		}
	}
	for _, k := range []kind{
		{callAdd, api.OK}, {callAdd, api.ErrRange}, {callAdd, api.ErrFull}, {callEvery, api.OK}, {callEvery, api.ErrRange}, {callEvery, api.ErrFull},
		{callCancel, api.OK}, {callCancel, api.ErrNone}, {callAdvance, api.OK}, {callAdvance, api.ErrRange}, {callAdvance, api.ErrLong},
	} {
		if seen[k] < 500 {
			t.Errorf("%v: %d calls", k, seen[k])
		}
	}
	if many < 500 || far < 500 || twice < 500 {
		t.Errorf("%d calls with many firings, %d clocks that end, %d calls with firings at the same time", many, far, twice)
	}
}
