package simclock

import (
	"cmp"

	"robotics/api"
)

// timer is a timer that has not fired for the last time.
type timer struct {
	next   Timer
	period int // 0 if it fires once
}

// compare compares the next firings, in firing order.
func (t timer) compare(u timer) int {
	return cmp.Or(cmp.Compare(t.next.At, u.next.At), cmp.Compare(t.next.Id, u.next.Id))
}

// fire returns the firings up to a time, and leaves the timers as they are
// after them. It returns ErrLong as soon as there are too many firings.
func fire(timers *sorted[timer], to int) ([]Timer, api.Errno) {
	var firings []Timer
	for {
		t, ok := timers.first()
		if !ok || t.next.At > to {
			return firings, api.OK
		}
		if len(firings) >= api.MaxEvents {
			return nil, api.ErrLong
		}
		firings = append(firings, t.next)
		timers.removeFirst()
		if t.period > 0 {
			t.next.At += t.period
			timers.add(t)
		}
	}
}
