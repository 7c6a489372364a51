package simclock_test

import (
	"testing"

	"robotics/api"
	"robotics/simclock"
)

// P13.1, Examples

func TestExamples(t *testing.T) {
	p := play(t, step{every(10, 20), number(1)}, step{add(30), number(2)}, step{advance(50), fired(1, 10, 1, 30, 2, 30, 1, 50)})
	if at, ok := p.clock.Next(); at != 70 || !ok {
		t.Errorf("Next = %d, %v", at, ok)
	}
	p.play(t, step{add(49), failed(api.ErrRange)}, step{cancel(2), failed(api.ErrNone)})
	p.expect(t, 50, 1, 70)

	p = play(t, step{every(0, 1), number(1)})
	if l, e := p.clock.Advance(4095); len(l) != 4096 || e != api.OK {
		t.Errorf("Advance = %d firings, %v", len(l), e)
	}
	p = play(t, step{every(0, 1), number(1)}, step{advance(4096), failed(api.ErrLong)})
	p.expect(t, 0, 1, 0)
}

// P13.1, New and Now

func TestNew(t *testing.T) {
	p := newPair()
	p.expect(t, 0)
	if at, ok := p.clock.Next(); at != 0 || ok {
		t.Errorf("Next = %d, %v", at, ok)
	}
	if simclock.New() == simclock.New() {
		t.Error("New returns the same clock again")
	}
}

func TestNow(t *testing.T) {
	p := newPair()
	for _, to := range []int{0, 1, 1, 7, 1000, api.MaxTime - 1, api.MaxTime, api.MaxTime} {
		p.play(t, step{advance(to), fired()})
		p.expect(t, to)
	}
}

// P13.1, Add

// timesAndErrors are times with the error of a timer at it, on a clock at 100.
var timesAndErrors = []struct {
	at int
	e  api.Errno
}{
	{least, api.ErrRange}, {-api.MaxTime, api.ErrRange}, {-1, api.ErrRange}, {0, api.ErrRange}, {98, api.ErrRange}, {99, api.ErrRange},
	{100, api.OK}, {101, api.OK}, {5000, api.OK}, {api.MaxTime - 1, api.OK}, {api.MaxTime, api.OK},
	{api.MaxTime + 1, api.ErrRange}, {api.MaxTime + 100, api.ErrRange}, {2 * api.MaxTime, api.ErrRange}, {most, api.ErrRange},
}

func TestAdd(t *testing.T) {
	for _, x := range timesAndErrors {
		p := prepared(t, advance(100))
		if x.e != api.OK {
			p.play(t, step{add(x.at), failed(x.e)})
			p.expect(t, 100)
			continue
		}
		p.play(t, step{add(x.at), number(1)})
		p.expect(t, 100, 1, x.at)
		p.play(t, step{advance(x.at), fired(1, x.at)}, step{advance(api.MaxTime), fired()})
	}
}

func TestAddOnANewClock(t *testing.T) {
	for _, x := range []step{
		{add(-1), failed(api.ErrRange)}, {add(0), number(1)}, {add(1), number(1)}, {add(api.MaxTime), number(1)},
		{add(api.MaxTime + 1), failed(api.ErrRange)}, {add(least), failed(api.ErrRange)}, {add(most), failed(api.ErrRange)},
	} {
		play(t, x)
	}
}

func TestAddAtTheEndOfTime(t *testing.T) {
	p := prepared(t, advance(api.MaxTime))
	p.play(t,
		step{add(api.MaxTime - 1), failed(api.ErrRange)}, step{add(api.MaxTime + 1), failed(api.ErrRange)},
		step{add(api.MaxTime), number(1)}, step{every(api.MaxTime, 1), number(2)},
		step{advance(api.MaxTime), fired(1, api.MaxTime, 2, api.MaxTime)}, step{advance(api.MaxTime), fired()},
	)
	p.expect(t, api.MaxTime, 2, api.MaxTime+1)
}

// P13.1, Every

func TestEvery(t *testing.T) {
	periods := []struct {
		period int
		e      api.Errno
	}{
		{least, api.ErrRange}, {-api.MaxTime, api.ErrRange}, {-1, api.ErrRange}, {0, api.ErrRange},
		{1, api.OK}, {2, api.OK}, {5000, api.OK}, {api.MaxTime - 1, api.OK}, {api.MaxTime, api.OK},
		{api.MaxTime + 1, api.ErrRange}, {2 * api.MaxTime, api.ErrRange}, {most, api.ErrRange},
	}
	for _, x := range timesAndErrors {
		for _, y := range periods {
			p := prepared(t, advance(100))
			if x.e != api.OK || y.e != api.OK {
				p.play(t, step{every(x.at, y.period), failed(api.ErrRange)})
				p.expect(t, 100)
				continue
			}
			p.play(t, step{every(x.at, y.period), number(1)})
			p.expect(t, 100, 1, x.at)
			p.play(t, step{advance(x.at), fired(1, x.at)})
			p.expect(t, x.at, 1, x.at+y.period)
		}
	}
}

// ErrFull

func TestFull(t *testing.T) {
	for _, x := range []call{add(0), add(50), add(api.MaxTime), every(0, 1), every(api.MaxTime, api.MaxTime), every(9, 4)} {
		p := newPair()
		for id := range api.MaxTasks {
			p.play(t, step{x, number(id + 1)})
		}
		full(t, p)
	}
}

// full checks a clock at 0 with MaxTasks timers.
func full(t *testing.T, p pair) {
	t.Helper()
	before := p.clock.Pending()
	p.play(t,
		step{add(0), failed(api.ErrFull)}, step{add(1000), failed(api.ErrFull)}, step{add(api.MaxTime), failed(api.ErrFull)},
		step{every(0, 1), failed(api.ErrFull)}, step{every(api.MaxTime, api.MaxTime), failed(api.ErrFull)},
		// ErrRange is before ErrFull.
		step{add(-1), failed(api.ErrRange)}, step{add(api.MaxTime + 1), failed(api.ErrRange)}, step{add(least), failed(api.ErrRange)},
		step{every(-1, 1), failed(api.ErrRange)}, step{every(api.MaxTime+1, 1), failed(api.ErrRange)},
		step{every(0, 0), failed(api.ErrRange)}, step{every(0, -1), failed(api.ErrRange)}, step{every(0, api.MaxTime+1), failed(api.ErrRange)},
		step{every(most, most), failed(api.ErrRange)},
	)
	if len(before) != api.MaxTasks || len(p.clock.Pending()) != api.MaxTasks {
		t.Errorf("%d timers, then %d", len(before), len(p.clock.Pending()))
	}
}

// A timer that has fired for the last time or was canceled makes room, one that
// fires again does not, even if it fires beyond MaxTime.
func TestRoom(t *testing.T) {
	p := prepared(t, append(fill(add(5), api.MaxTasks-2), every(5, 5), add(6))...)
	p.play(t, step{add(9), failed(api.ErrFull)}, step{advance(4), fired()}, step{add(9), failed(api.ErrFull)})
	p.play(t, step{cancel(7), done()}, step{add(9), number(65)}, step{add(9), failed(api.ErrFull)})
	if got := p.run(t, advance(5)); len(got.firings) != api.MaxTasks-2 {
		t.Errorf("%d firings", len(got.firings))
	}
	p.expect(t, 5, 64, 6, 65, 9, 63, 10)
	for id := 66; id < 66+api.MaxTasks-3; id++ {
		p.play(t, step{add(100), number(id)})
	}
	p.play(t, step{add(100), failed(api.ErrFull)}, step{advance(6), fired(64, 6)}, step{add(100), number(127)}, step{every(100, 1), failed(api.ErrFull)})

	p = prepared(t, append(fill(every(api.MaxTime, 1), api.MaxTasks), advance(api.MaxTime))...)
	p.play(t, step{add(api.MaxTime), failed(api.ErrFull)}, step{cancel(64), done()}, step{add(api.MaxTime), number(65)})
}

// P13.2

func TestNumbers(t *testing.T) {
	play(t,
		step{add(5), number(1)}, step{every(5, 5), number(2)}, step{add(5), number(3)},
		// after errors
		step{add(-1), failed(api.ErrRange)}, step{every(5, 0), failed(api.ErrRange)}, step{every(-1, 5), failed(api.ErrRange)},
		step{cancel(9), failed(api.ErrNone)}, step{advance(-1), failed(api.ErrRange)}, step{advance(api.MaxTime), failed(api.ErrLong)},
		step{add(6), number(4)},
		// after cancels, also of the last timer
		step{cancel(1), done()}, step{cancel(4), done()}, step{cancel(4), failed(api.ErrNone)}, step{every(7, 1), number(5)}, step{cancel(5), done()}, step{add(7), number(6)},
		// after firings, also of the last timer
		step{advance(10), fired(2, 5, 3, 5, 6, 7, 2, 10)}, step{add(10), number(7)}, step{advance(10), fired(7, 10)}, step{every(11, 3), number(8)},
		// without timers
		step{cancel(2), done()}, step{cancel(8), done()}, step{add(10), number(9)}, step{add(11), number(10)},
	)
}

func TestManyNumbers(t *testing.T) {
	p := newPair()
	for id := 1; id <= 20000; id++ {
		x := add(p.clock.Now() + id%3)
		if id%5 == 0 {
			x = every(p.clock.Now(), 1+id%4)
		}
		p.play(t, step{x, number(id)})
		if id%5 == 1 && id > 1 {
			p.play(t, step{cancel(id - 1), done()})
		}
		if id%4 == 0 {
			p.run(t, advance(p.clock.Now()+2))
		}
		if id%7 == 0 && p.run(t, add(-1)).e != api.ErrRange {
			t.Fatal("a time before Now")
		}
	}
}

// P13.1, Cancel

func TestCancelWithoutATimer(t *testing.T) {
	for _, calls := range [][]call{nil, {add(5)}, {every(5, 5)}, {add(5), every(5, 5), advance(20)}} {
		p := prepared(t, calls...)
		for _, id := range []int{least, -api.MaxTime, -2, -1, 0, len(calls) + 1, 64, api.MaxTime, most} {
			before := stateOf(p.clock)
			p.play(t, step{cancel(id), failed(api.ErrNone)})
			p.expect(t, before.now, pairsOf(before.pending)...)
		}
	}
}

// pairsOf returns the numbers and times of firings.
func pairsOf(list []simclock.Timer) (pairs []int) {
	for _, x := range list {
		pairs = append(pairs, x.Id, x.At)
	}
	return pairs
}

func TestCancel(t *testing.T) {
	p := play(t,
		step{cancel(1), failed(api.ErrNone)}, step{add(5), number(1)}, step{cancel(2), failed(api.ErrNone)},
		step{cancel(1), done()}, step{cancel(1), failed(api.ErrNone)}, step{advance(9), fired()},
	)
	p.expect(t, 9)
	p.play(t,
		step{add(10), number(2)}, step{every(10, 10), number(3)}, step{add(20), number(4)}, step{add(10), number(5)},
		step{cancel(4), done()}, step{cancel(4), failed(api.ErrNone)},
		step{advance(10), fired(2, 10, 3, 10, 5, 10)},
		// a timer that fires once, and one that fires again
		step{cancel(2), failed(api.ErrNone)}, step{cancel(5), failed(api.ErrNone)}, step{advance(35), fired(3, 20, 3, 30)},
		step{cancel(3), done()}, step{cancel(3), failed(api.ErrNone)}, step{advance(100), fired()},
	)
	p.expect(t, 100)
}

// Each of several timers at the same time, in each order.
func TestCancelIsOfOneTimer(t *testing.T) {
	for first := 1; first <= 4; first++ {
		for second := 1; second <= 4; second++ {
			p := prepared(t, add(7), every(7, 7), add(7), every(7, 3))
			p.play(t, step{cancel(first), done()})
			if second != first {
				p.play(t, step{cancel(second), done()})
			}
			var want []int
			for id := 1; id <= 4; id++ {
				if id != first && id != second {
					want = append(want, id, 7)
				}
			}
			p.expect(t, 0, want...)
			p.play(t, step{advance(7), fired(want...)})
		}
	}
}

// A timer is canceled when it is due, but has not fired.
func TestCancelOfATimerThatIsDue(t *testing.T) {
	p := prepared(t, advance(5), add(5), every(5, 5), add(5))
	p.play(t, step{cancel(1), done()}, step{cancel(2), done()}, step{advance(5), fired(3, 5)}, step{cancel(3), failed(api.ErrNone)})
}
