package network_test

import (
	"slices"
	"testing"

	"robotics/api"
)

// Examples

func TestExamples(t *testing.T) {
	p := plain(2).play(t, step{send(0, 0, 1, "a"), number(1)}, step{send(5, 1, 0, "b"), number(2)})
	p.expect(t, state{10, true, 2})
	p.play(t,
		step{send(4, 0, 1, "late"), failed(api.ErrTime)}, step{send(5, 0, 0, "self"), failed(api.ErrRange)},
		step{receive(12), arrived(arrival(10, 0, 1, 1, "a"))}, step{receive(15), arrived(arrival(15, 1, 0, 2, "b"))},
	)

	plain(2, fault(api.FDelay, 0, 1, 0, 100, 7), fault(api.FDuplicate, 0, 1, 0, 100, 3)).play(t,
		step{send(1, 0, 1, "x"), number(1)},
		step{receive(most), arrived(arrival(18, 0, 1, 1, "x"), arrival(21, 0, 1, 1, "x"))},
	)

	p = plain(2, fault(api.FCut, 0, 1, 10, 20, 0)).play(t,
		step{send(9, 1, 0, "a"), number(1)}, step{send(10, 1, 0, "b"), number(2)}, step{send(20, 0, 1, "c"), number(3)},
		step{receive(most), arrived(arrival(19, 1, 0, 1, "a"), arrival(30, 0, 1, 3, "c"))},
	)
	p.expect(t, state{sent: 3})
}

// P14.3, errors

// choice is an argument with the error that it causes.
type choice[T any] struct {
	argument T
	e        api.Errno
}

// firstError returns the first of these that is an error.
func firstError(list ...api.Errno) api.Errno {
	for _, e := range list {
		if e != api.OK {
			return e
		}
	}
	return api.OK
}

// checkSendErrors checks all combinations of errors on a network of two nodes
// on which nothing can be sent before 100, and that has the last error or none.
// It is made anew whenever something was sent.
func checkSendErrors(t *testing.T, last api.Errno, made func() pair) {
	t.Helper()
	ends := []choice[[2]int]{
		{[2]int{0, 1}, api.OK}, {[2]int{1, 0}, api.OK}, {[2]int{0, 0}, api.ErrRange}, {[2]int{1, 1}, api.ErrRange},
		{[2]int{-1, 0}, api.ErrRange}, {[2]int{0, -1}, api.ErrRange}, {[2]int{2, 0}, api.ErrRange}, {[2]int{1, 2}, api.ErrRange},
		{[2]int{most, 0}, api.ErrRange}, {[2]int{0, least}, api.ErrRange}, {[2]int{most, most}, api.ErrRange}, {[2]int{-1, -1}, api.ErrRange},
	}
	times := []choice[int]{
		{least, api.ErrRange}, {-1, api.ErrRange}, {0, api.ErrTime}, {99, api.ErrTime}, {100, api.OK}, {101, api.OK},
		{api.MaxTime, api.OK}, {api.MaxTime + 1, api.ErrRange}, {most, api.ErrRange},
	}
	data := []choice[string]{{"", api.OK}, {"a", api.OK}, {text(api.MaxText), api.OK}, {text(api.MaxText + 1), api.ErrLong}, {text(10000), api.ErrLong}}
	p := made()
	for _, x := range ends {
		for _, at := range times {
			for _, d := range data {
				inRange := at.e
				if at.e == api.ErrTime { // which is not checked before the length
					inRange = api.OK
				}
				e := firstError(x.e, inRange, d.e, at.e, last)
				want := failed(e)
				if e == api.OK {
					want = number(p.network.Sent() + 1)
				}
				p.play(t, step{send(at.argument, x.argument[0], x.argument[1], d.argument), want})
				if e == api.OK {
					p = made()
				}
			}
		}
	}
}

func TestSendErrors(t *testing.T) {
	checkSendErrors(t, api.OK, func() pair { return plain(2).play(t, step{send(100, 0, 1, ""), number(1)}) })
	checkSendErrors(t, api.OK, func() pair { return plain(2).play(t, step{receive(100), done()}) })
}

func TestSendErrorsWhenFull(t *testing.T) {
	s := setup{2, 1000, nil}
	p := s.pair(t)
	p.fill(t, 0, 0, 1, 100)
	for range full - 100 {
		x := send(100, 1, 0, "")
		x.on(p.network)
		x.on(p.model)
	}
	p.expect(t, state{1000, true, full})
	checkSendErrors(t, api.ErrFull, func() pair { return p })
	if l := p.run(t, receive(most)).arrivals; len(l) != full {
		t.Errorf("%d arrivals", len(l))
	}
	p.play(t, step{send(api.MaxTime, 0, 1, ""), failed(api.ErrTime)})
}

func TestSendAtTimes(t *testing.T) {
	for _, x := range []struct {
		at int
		e  api.Errno
	}{
		{least, api.ErrRange}, {-api.MaxTime, api.ErrRange}, {-1, api.ErrRange}, {0, api.OK}, {1, api.OK}, {5000, api.OK},
		{api.MaxTime - 1, api.OK}, {api.MaxTime, api.OK}, {api.MaxTime + 1, api.ErrRange}, {2 * api.MaxTime, api.ErrRange}, {most, api.ErrRange},
	} {
		if x.e != api.OK {
			plain(2).play(t, step{send(x.at, 0, 1, "a"), failed(x.e)})
			continue
		}
		plain(2).play(t, step{send(x.at, 0, 1, "a"), number(1)}, step{receive(x.at + 9), done()}, step{receive(x.at + 10), arrived(arrival(x.at+10, 0, 1, 1, "a"))})
	}
}

func TestData(t *testing.T) {
	for _, data := range []string{"", "a", "\x00\xff", "two\nlines", "é", text(api.MaxText - 1), text(api.MaxText)} {
		plain(2).play(t, step{send(0, 0, 1, data), number(1)}, step{receive(10), arrived(arrival(10, 0, 1, 1, data))})
	}
	for _, n := range []int{api.MaxText + 1, 2 * api.MaxText, 1 << 20} {
		plain(2).play(t, step{send(0, 0, 1, text(n)), failed(api.ErrLong)}, step{receive(most), done()})
	}
}

// Nothing can be sent before what was sent or received before.
func TestTimes(t *testing.T) {
	late := failed(api.ErrTime)
	plain(2).play(t,
		step{send(5, 0, 1, ""), number(1)}, step{send(4, 0, 1, ""), late}, step{send(4, 1, 0, ""), late}, step{send(0, 0, 1, ""), late},
		step{send(5, 0, 1, ""), number(2)}, step{send(5, 1, 0, ""), number(3)},
		step{receive(9), done()}, step{send(5, 0, 1, ""), late}, step{send(8, 0, 1, ""), late}, step{send(9, 0, 1, ""), number(4)},
		// the greatest argument counts, not the last one
		step{receive(3), done()}, step{send(8, 0, 1, ""), late}, step{receive(11), done()}, step{receive(10), done()},
		step{send(9, 0, 1, ""), late}, step{send(10, 0, 1, ""), late}, step{send(11, 0, 1, ""), number(5)}, step{send(10, 0, 1, ""), late},
	)
	// after a transmission that is lost
	plain(2, always(api.FCut, 0, 1, 0)).play(t, step{send(5, 0, 1, ""), number(1)}, step{send(4, 1, 0, ""), late}, step{send(5, 1, 0, ""), number(2)})
}

func TestTimesAfterReceive(t *testing.T) {
	late, beyond := failed(api.ErrTime), failed(api.ErrRange)
	for _, until := range []int{least, -api.MaxTime, -1, 0} {
		plain(2).play(t, step{receive(until), done()}, step{send(0, 0, 1, ""), number(1)})
	}
	plain(2).play(t, step{receive(1), done()}, step{send(0, 0, 1, ""), late}, step{send(1, 0, 1, ""), number(1)})
	plain(2).play(t,
		step{receive(api.MaxTime), done()}, step{send(api.MaxTime-1, 0, 1, ""), late}, step{send(api.MaxTime, 0, 1, ""), number(1)},
		step{send(api.MaxTime+1, 0, 1, ""), beyond},
	)
	for _, until := range []int{api.MaxTime + 1, 2 * api.MaxTime, most} {
		plain(2).play(t,
			step{receive(until), done()}, step{send(0, 0, 1, ""), late}, step{send(api.MaxTime, 0, 1, ""), late}, step{send(api.MaxTime+1, 0, 1, ""), beyond},
			step{receive(least), done()}, step{send(api.MaxTime, 0, 1, ""), late},
		)
	}
}

// A call with an error is no earlier Send.
func TestTimesAfterErrors(t *testing.T) {
	p := plain(2).play(t, step{send(5, 0, 1, ""), number(1)},
		step{send(50, 0, 0, ""), failed(api.ErrRange)}, step{send(50, 0, 2, ""), failed(api.ErrRange)}, step{send(api.MaxTime+1, 0, 1, ""), failed(api.ErrRange)},
		step{send(50, 0, 1, text(api.MaxText+1)), failed(api.ErrLong)}, step{send(4, 0, 1, ""), failed(api.ErrTime)},
		step{send(5, 0, 1, ""), number(2)},
	)
	p.fill(t, 5, 0, 1, 1)
	p.expect(t, state{15, true, 3})

	p = setup{2, 1 << 20, nil}.pair(t)
	for range full {
		x := send(5, 0, 1, "")
		x.on(p.network)
		x.on(p.model)
	}
	p.play(t, step{send(50, 0, 1, ""), failed(api.ErrFull)}, step{clearNode(0), done()}, step{send(5, 0, 1, ""), number(full + 1)})
}

// Numbers are consecutive, whatever becomes of the transmissions.
func TestNumbers(t *testing.T) {
	p := plain(3, fault(api.FDrop, 0, 1, 5, 6, 0), fault(api.FDuplicate, 1, 2, 0, 50, 4), fault(api.FCut, 0, 2, 0, 50, 0)).play(t,
		step{send(3, 0, 1, ""), number(1)}, step{send(3, 1, 2, ""), number(2)}, step{send(3, 2, 0, ""), number(3)},
		// after errors
		step{send(2, 0, 1, ""), failed(api.ErrTime)}, step{send(3, 0, 0, ""), failed(api.ErrRange)}, step{send(-1, 0, 1, ""), failed(api.ErrRange)},
		step{send(3, 0, 1, text(4001)), failed(api.ErrLong)}, step{send(3, 0, 1, ""), number(4)},
		// after losses
		step{send(5, 0, 1, ""), number(5)}, step{send(5, 0, 2, ""), number(6)}, step{send(6, 0, 1, ""), number(7)},
		// after what was received and cleared
		step{receive(13), arrived(arrival(13, 0, 1, 1, ""), arrival(13, 1, 2, 2, ""), arrival(13, 0, 1, 4, ""))},
		step{send(13, 2, 1, ""), number(8)}, step{clearNode(1), done()}, step{send(13, 1, 2, ""), number(9)},
		step{receive(most), arrived(arrival(23, 1, 2, 9, ""), arrival(27, 1, 2, 9, ""))},
	)
	p.expect(t, state{sent: 9})
}

// P14.3, ErrFull

func TestFull(t *testing.T) {
	p := setup{2, 1 << 20, []api.Fault{always(api.FDrop, 1, 0, 0)}}.pair(t)
	p.fill(t, 0, 0, 1, full-1)
	now := full
	// What is lost takes no room, but nothing can be sent without room.
	p.play(t,
		step{send(now, 1, 0, ""), number(full)}, step{send(now, 1, 0, ""), number(full + 1)}, step{send(now, 0, 1, ""), number(full + 2)},
		step{send(now, 0, 1, ""), failed(api.ErrFull)}, step{send(now, 1, 0, ""), failed(api.ErrFull)}, step{send(api.MaxTime, 1, 0, ""), failed(api.ErrFull)},
	)
	p.expect(t, state{1 << 20, true, full + 2})
	// Each arrival that is received makes room.
	p.play(t,
		step{receive(1<<20 - 1), done()}, step{send(1<<20, 0, 1, ""), failed(api.ErrFull)},
		step{receive(1 << 20), arrived(arrival(1<<20, 0, 1, 1, ""))},
		step{send(1<<20, 1, 0, ""), number(full + 3)}, step{send(1<<20, 0, 1, ""), number(full + 4)}, step{send(1<<20, 0, 1, ""), failed(api.ErrFull)},
		step{receive(1<<20 + 2), arrived(arrival(1<<20+1, 0, 1, 2, ""), arrival(1<<20+2, 0, 1, 3, ""))},
		step{send(1<<20+2, 0, 1, ""), number(full + 5)}, step{send(1<<20+2, 0, 1, ""), number(full + 6)}, step{send(1<<20+2, 0, 1, ""), failed(api.ErrFull)},
	)
	// So does what is cleared.
	p.play(t, step{clearNode(2), done()}, step{send(1<<20+2, 0, 1, ""), failed(api.ErrFull)}, step{clearNode(1), done()}, step{send(1<<20+2, 0, 1, ""), number(full + 7)})
	if l := p.run(t, receive(most)).arrivals; len(l) != 1 {
		t.Errorf("%v", l)
	}
}

// One transmission may cause more arrivals than there is room for.
func TestFullByDuplicates(t *testing.T) {
	for _, room := range []int{1, 2, 3, 4, 5} {
		faults := []api.Fault{always(api.FDuplicate, 0, 1, 5), always(api.FDuplicate, 0, 1, 0), always(api.FDuplicate, 0, 1, 1<<30)}
		p := setup{2, 1 << 20, faults}.pair(t)
		p.fill(t, 0, 1, 0, full-room)
		now := full
		p.play(t, step{send(now, 0, 1, "last"), number(full - room + 1)})
		sent := full - room + 1
		if room == 5 {
			p.play(t, step{send(now, 1, 0, ""), number(full - room + 2)})
			sent++
		}
		p.play(t, step{send(now, 0, 1, ""), failed(api.ErrFull)}, step{send(now, 1, 0, ""), failed(api.ErrFull)})
		// There is room again when less than 2^16 arrivals are left.
		beyond := max(4-room, 0)
		for k := range beyond {
			p.play(t, step{receive(1<<20 + k), arrived(arrival(1<<20+k, 1, 0, k+1, ""))}, step{send(1<<20+k, 0, 1, ""), failed(api.ErrFull)})
		}
		p.play(t,
			step{receive(1<<20 + beyond), arrived(arrival(1<<20+beyond, 1, 0, beyond+1, ""))},
			step{send(1<<20+beyond, 1, 0, ""), number(sent + 1)}, step{send(1<<20+beyond, 1, 0, ""), failed(api.ErrFull)},
		)
	}
}

// The count is of arrivals, not of transmissions.
func TestFullOfDuplicates(t *testing.T) {
	p := setup{2, 1 << 20, slices.Repeat([]api.Fault{always(api.FDuplicate, 0, 1, 3)}, 63)}.pair(t)
	p.fill(t, 0, 0, 1, full/64-1)
	p.play(t,
		step{send(full, 1, 0, ""), number(full / 64)}, step{send(full, 0, 1, ""), number(full/64 + 1)},
		step{send(full, 1, 0, ""), failed(api.ErrFull)}, step{send(full, 0, 1, ""), failed(api.ErrFull)},
	)
	if l := p.run(t, receive(most)).arrivals; len(l) != full+1 {
		t.Errorf("%d arrivals", len(l))
	}
}

// P14.3, faults

// A fault is in force from From on until before Until.
func TestFaultsInForce(t *testing.T) {
	for _, x := range []struct {
		kind, extra int
		want        []int // when what is sent at 0 arrives if it is in force
	}{
		{api.FDrop, 0, nil}, {api.FCut, 0, nil}, {api.FDelay, 7, []int{17}}, {api.FDelay, 0, []int{10}},
		{api.FDuplicate, 3, []int{10, 13}}, {api.FDuplicate, 0, []int{10, 10}},
	} {
		s := plain(2, fault(x.kind, 0, 1, 50, 60, x.extra))
		for _, at := range []int{0, 1, 48, 49, 50, 51, 58, 59, 60, 61, 1000, api.MaxTime} {
			want := []int{at + 10}
			if at >= 50 && at < 60 {
				want = nil
				for _, n := range x.want {
					want = append(want, at+n)
				}
			}
			s.arrivesAt(t, at, 0, 1, want...)
		}
		// never in force
		for _, at := range []int{49, 50, 51} {
			plain(2, fault(x.kind, 0, 1, 50, 50, x.extra)).arrivesAt(t, at, 0, 1, at+10)
		}
		plain(2, fault(x.kind, 0, 1, 0, 0, x.extra)).arrivesAt(t, 0, 0, 1, 10)
		// at the first and the last time
		plain(2, fault(x.kind, 0, 1, 0, 1, x.extra)).arrivesAt(t, 0, 0, 1, x.want...)
		plain(2, fault(x.kind, 0, 1, 0, 1, x.extra)).arrivesAt(t, 1, 0, 1, 11)
		plain(2, always(x.kind, 0, 1, x.extra)).arrivesAt(t, api.MaxTime, 0, 1, api.MaxTime+10)
		plain(2, fault(x.kind, 0, 1, api.MaxTime, api.MaxTime, x.extra)).arrivesAt(t, api.MaxTime, 0, 1, api.MaxTime+10)
	}
}

// A cut concerns both directions, each other fault one.
func TestDirections(t *testing.T) {
	for _, x := range []struct {
		f           api.Fault
		there, back []int
	}{
		{always(api.FDrop, 0, 2, 0), nil, []int{11}}, {always(api.FDrop, 2, 0, 0), []int{11}, nil},
		{always(api.FCut, 0, 2, 0), nil, nil}, {always(api.FCut, 2, 0, 0), nil, nil},
		{always(api.FDelay, 0, 2, 7), []int{18}, []int{11}}, {always(api.FDelay, 2, 0, 7), []int{11}, []int{18}},
		{always(api.FDuplicate, 0, 2, 3), []int{11, 14}, []int{11}}, {always(api.FDuplicate, 2, 0, 3), []int{11}, []int{11, 14}},
	} {
		s := plain(4, x.f)
		s.arrivesAt(t, 1, 0, 2, x.there...)
		s.arrivesAt(t, 1, 2, 0, x.back...)
		for from := range 4 {
			for to := range 4 {
				if from != to && from+to != 2 {
					s.arrivesAt(t, 1, from, to, 11) // another pair
				}
			}
		}
	}
}

func TestSeveralFaults(t *testing.T) {
	delay := func(extra int) api.Fault { return always(api.FDelay, 0, 1, extra) }
	duplicate := func(extra int) api.Fault { return always(api.FDuplicate, 0, 1, extra) }
	drop, cut := always(api.FDrop, 0, 1, 0), always(api.FCut, 1, 0, 0)
	for _, x := range []struct {
		faults []api.Fault
		want   []int
	}{
		{[]api.Fault{delay(7), delay(2)}, []int{19}},
		{[]api.Fault{delay(7), delay(7), delay(0), delay(100)}, []int{124}},
		{[]api.Fault{duplicate(3), duplicate(5)}, []int{10, 13, 15}},
		{[]api.Fault{duplicate(5), duplicate(3), duplicate(5), duplicate(0)}, []int{10, 10, 13, 15, 15}},
		{[]api.Fault{delay(7), duplicate(3)}, []int{17, 20}},
		{[]api.Fault{duplicate(3), delay(7)}, []int{17, 20}},
		{[]api.Fault{duplicate(3), delay(7), duplicate(1), delay(2)}, []int{19, 20, 22}},
		{[]api.Fault{drop, drop}, nil}, {[]api.Fault{cut, cut}, nil}, {[]api.Fault{drop, cut}, nil},
		{[]api.Fault{drop, delay(7), duplicate(3)}, nil}, {[]api.Fault{delay(7), duplicate(3), drop}, nil},
		{[]api.Fault{delay(7), cut, duplicate(3)}, nil}, {[]api.Fault{duplicate(3), delay(7), cut}, nil},
	} {
		plain(2, x.faults...).arrivesAt(t, 0, 0, 1, x.want...)
		plain(2, slices.Concat(x.faults, []api.Fault{always(api.FDelay, 1, 0, 50)})...).arrivesAt(t, 0, 0, 1, x.want...)
	}
}

// Faults of which only some are in force.
func TestFaultsAfterAnother(t *testing.T) {
	s := plain(2,
		fault(api.FDelay, 0, 1, 0, 10, 1), fault(api.FDelay, 0, 1, 5, 15, 20), fault(api.FDuplicate, 0, 1, 8, 12, 3),
		fault(api.FDuplicate, 0, 1, 11, 14, 4), fault(api.FDrop, 0, 1, 13, 16, 0), fault(api.FCut, 1, 0, 18, 19, 0),
	)
	for at, want := range [][]int{
		{11}, {12}, {13}, {14}, {15}, {36}, {37}, {38}, {39, 42}, {40, 43}, {40, 43}, {41, 44, 45}, {42, 46}, nil, nil, nil, {26}, {27}, nil, {29},
	} {
		s.arrivesAt(t, at, 0, 1, want...)
	}
}

// The greatest times that can come up.
func TestGreatestTimes(t *testing.T) {
	s := setup{2, api.MaxTime, slices.Repeat([]api.Fault{always(api.FDelay, 0, 1, api.MaxTime)}, api.MaxFaults)}
	s.arrivesAt(t, api.MaxTime-1, 0, 1, api.MaxTime*66-1)
	s.arrivesAt(t, api.MaxTime, 0, 1, api.MaxTime*2)
	s.faults[63] = always(api.FDuplicate, 0, 1, api.MaxTime)
	s.arrivesAt(t, api.MaxTime-1, 0, 1, api.MaxTime*65-1, api.MaxTime*66-1)
	s.faults = slices.Repeat([]api.Fault{always(api.FDuplicate, 0, 1, api.MaxTime)}, api.MaxFaults)
	s.arrivesAt(t, 0, 0, 1, append([]int{api.MaxTime}, slices.Repeat([]int{2 * api.MaxTime}, 64)...)...)
}
