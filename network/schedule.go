package network

import "slices"

// schedule holds the pending arrivals by their time. At the same time they are
// in the order in which they were added, which is that of their transmissions.
type schedule struct {
	byTime map[int][]Arrival
	times  []int // the keys of byTime, in ascending order
	count  int   // of the arrivals
}

func newSchedule() schedule {
	return schedule{byTime: map[int][]Arrival{}}
}

// add adds an arrival.
func (s *schedule) add(a Arrival) {
	list := s.byTime[a.At]
	if len(list) == 0 {
		place, _ := slices.BinarySearch(s.times, a.At)
		s.times = slices.Insert(s.times, place, a.At)
	}
	s.byTime[a.At] = append(list, a)
	s.count++
}

// first returns the time of the first arrival, or false if there is none.
func (s *schedule) first() (int, bool) {
	if len(s.times) == 0 {
		return 0, false
	}
	return s.times[0], true
}

// take removes and returns the arrivals up to a time, in order.
func (s *schedule) take(until int) []Arrival {
	var taken []Arrival
	for len(s.times) > 0 && s.times[0] <= until {
		taken = append(taken, s.byTime[s.times[0]]...)
		delete(s.byTime, s.times[0])
		s.times = s.times[1:]
	}
	s.count -= len(taken)
	return taken
}

// remove removes the arrivals that are meant.
func (s *schedule) remove(meant func(Arrival) bool) {
	kept := newSchedule()
	for at, list := range s.byTime {
		list = slices.DeleteFunc(list, meant)
		if len(list) == 0 {
			continue
		}
		kept.byTime[at] = list
		kept.times = append(kept.times, at)
		kept.count += len(list)
	}
	slices.Sort(kept.times)
	*s = kept
}
