package simclock_test

import (
	"cmp"
	"math/rand"
	"slices"

	"robotics/api"
	"robotics/simclock"
)

// model is a clock that keeps the timers by their numbers, counts the firings
// of each one by division, and sorts them at the end.
type model struct {
	now, last int
	timers    map[int]modelTimer
}

type modelTimer struct{ next, period int }

func newModel() *model { return &model{timers: map[int]modelTimer{}} }

func (m *model) Now() int { return m.now }

func (m *model) Add(at int) (int, api.Errno) {
	if at < m.now || at > api.MaxTime {
		return 0, api.ErrRange
	}
	return m.put(modelTimer{at, 0})
}

func (m *model) Every(first, period int) (int, api.Errno) {
	if first < m.now || first > api.MaxTime || period < 1 || period > api.MaxTime {
		return 0, api.ErrRange
	}
	return m.put(modelTimer{first, period})
}

func (m *model) put(x modelTimer) (int, api.Errno) {
	if len(m.timers) == api.MaxTasks {
		return 0, api.ErrFull
	}
	m.last++
	m.timers[m.last] = x
	return m.last, api.OK
}

func (m *model) Cancel(id int) api.Errno {
	if _, ok := m.timers[id]; !ok {
		return api.ErrNone
	}
	delete(m.timers, id)
	return api.OK
}

func (m *model) Next() (int, bool) {
	at, ok := 0, false
	for _, x := range m.timers {
		if !ok || x.next < at {
			at, ok = x.next, true
		}
	}
	return at, ok
}

// until returns how often the timer fires up to a time.
func (x modelTimer) until(to int) int {
	switch {
	case x.next > to:
		return 0
	case x.period == 0:
		return 1
	default:
		return (to-x.next)/x.period + 1
	}
}

func (m *model) Advance(to int) ([]simclock.Timer, api.Errno) {
	if to < m.now || to > api.MaxTime {
		return nil, api.ErrRange
	}
	count := 0
	for _, x := range m.timers {
		count += x.until(to)
	}
	if count > api.MaxEvents {
		return nil, api.ErrLong
	}
	var fired []simclock.Timer
	left := map[int]modelTimer{}
	for id, x := range m.timers {
		n := x.until(to)
		for k := range n {
			fired = append(fired, simclock.Timer{Id: id, At: x.next + k*x.period})
		}
		if n == 0 || x.period > 0 {
			left[id] = modelTimer{x.next + n*x.period, x.period}
		}
	}
	m.now, m.timers = to, left
	slices.SortFunc(fired, firingOrder)
	return fired, api.OK
}

func (m *model) Pending() (list []simclock.Timer) {
	for id, x := range m.timers {
		list = append(list, simclock.Timer{Id: id, At: x.next})
	}
	slices.SortFunc(list, firingOrder)
	return list
}

// firingOrder orders firings by time, and at the same time by number.
func firingOrder(a, b simclock.Timer) int {
	if a.At != b.At {
		return cmp.Compare(a.At, b.At)
	}
	return cmp.Compare(a.Id, b.Id)
}

// caller makes random calls. How often a method is called and how far the times
// are from each other is its own.
type caller struct {
	r       *rand.Rand
	weights [methods]int
	reach   int // of times, from Now on
	strange int // one in so many arguments is any number
}

func newCaller(r *rand.Rand) caller {
	x := caller{r: r, reach: 1 << r.Intn(14), strange: 1 << (2 + r.Intn(8))}
	if r.Intn(5) == 0 {
		x.reach = 1 << (30 + r.Intn(11))
	}
	for i := range x.weights {
		x.weights[i] = 1 + r.Intn(6)
	}
	if r.Intn(4) == 0 { // fills the clock
		x.weights[callAdd], x.weights[callEvery], x.weights[callCancel] = 20, 20, 1
	}
	return x
}

// next returns a call that suits a clock with this time, to which so many
// timers were added.
func (x caller) next(now, last int) call {
	k := x.r.Intn(x.weights[callAdd] + x.weights[callEvery] + x.weights[callCancel] + x.weights[callAdvance])
	method := 0
	for k >= x.weights[method] {
		k -= x.weights[method]
		method++
	}
	switch method {
	case callAdd:
		return add(x.time(now))
	case callEvery:
		return every(x.time(now), x.period())
	case callCancel:
		return cancel(x.id(last))
	default:
		return advance(x.time(now))
	}
}

func (x caller) time(now int) int {
	if x.r.Intn(x.strange) == 0 {
		return x.any(now)
	}
	return now + x.r.Intn(x.reach)
}

func (x caller) period() int {
	if x.r.Intn(x.strange) == 0 {
		return x.any(0)
	}
	if x.r.Intn(8) == 0 {
		return 1 + x.r.Intn(x.reach)
	}
	return 1 + x.reach/(1+x.r.Intn(40))
}

func (x caller) id(last int) int {
	if x.r.Intn(x.strange) == 0 {
		return x.any(last)
	}
	return 1 + x.r.Intn(last+1)
}

// any returns a number that is near a limit, or any one.
func (x caller) any(n int) int {
	list := []int{n - 1, n, n + 1, -1, 0, 1, api.MaxTime - 1, api.MaxTime, api.MaxTime + 1, least, most, int(x.r.Uint64()), x.r.Intn(api.MaxTime)}
	return list[x.r.Intn(len(list))]
}
