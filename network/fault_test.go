package network_test

import (
	"slices"
	"testing"

	"robotics/api"
	"robotics/network"
)

// P14.2

// check checks what Check says of a fault, and that New says the same.
func check(t *testing.T, nodes int, f api.Fault, want api.Errno) {
	t.Helper()
	if e := network.Check(nodes, f); e != want {
		t.Errorf("Check(%d, %v) = %v, want %v", nodes, f, e, want)
	}
	if n, e := network.New(nodes, 0, []api.Fault{f}); e != want || (n == nil) != (want != api.OK) {
		t.Errorf("New(%d, 0, %v) = %v, %v, want %v", nodes, f, n, e, want)
	}
}

func TestCheckNodes(t *testing.T) {
	for _, x := range []struct {
		nodes int
		e     api.Errno
	}{
		{least, api.ErrRange}, {-1, api.ErrRange}, {0, api.ErrRange}, {1, api.ErrRange}, // no two nodes
		{2, api.OK}, {3, api.OK}, {api.MaxNodes - 1, api.OK}, {api.MaxNodes, api.OK},
		{api.MaxNodes + 1, api.ErrRange}, {most, api.ErrRange},
	} {
		check(t, x.nodes, fault(api.FCut, 0, 1, 3, 9, 0), x.e)
	}
}

func TestCheckKind(t *testing.T) {
	for _, x := range []struct {
		kind int
		e    api.Errno
	}{
		{least, api.ErrRange}, {-1, api.ErrRange}, {api.FDrop - 1, api.ErrRange},
		{api.FDrop, api.OK}, {api.FDelay, api.OK}, {api.FDuplicate, api.OK}, {api.FCut, api.OK},
		{api.FCut + 1, api.ErrRange}, {most, api.ErrRange},
	} {
		check(t, 3, fault(x.kind, 0, 1, 3, 9, 0), x.e)
	}
}

func TestCheckEnds(t *testing.T) {
	ends := []int{least, -1, 0, 1, 2, 3, 7, 8, most}
	for _, nodes := range []int{1, 2, 3, api.MaxNodes} {
		for _, a := range ends {
			for _, b := range ends {
				want := api.OK
				if a < 0 || b < 0 || a >= nodes || b >= nodes || a == b {
					want = api.ErrRange
				}
				for kind := api.FDrop; kind <= api.FCut; kind++ {
					check(t, nodes, fault(kind, a, b, 3, 9, 0), want)
				}
			}
		}
	}
	check(t, 3, fault(api.FDrop, 2, 0, 3, 9, 0), api.OK)
	check(t, 3, fault(api.FDrop, 3, 0, 3, 9, 0), api.ErrRange)
	check(t, 3, fault(api.FDrop, 0, 3, 3, 9, 0), api.ErrRange)
	check(t, 3, fault(api.FDrop, 2, 2, 3, 9, 0), api.ErrRange)
}

func TestCheckTimes(t *testing.T) {
	for _, x := range []struct {
		from, until int
		e           api.Errno
	}{
		{0, 0, api.OK}, {0, 1, api.OK}, {7, 7, api.OK}, {7, 8, api.OK}, {0, api.MaxTime, api.OK},
		{api.MaxTime - 1, api.MaxTime, api.OK}, {api.MaxTime, api.MaxTime, api.OK},
		{1, 0, api.ErrRange}, {8, 7, api.ErrRange}, {api.MaxTime, api.MaxTime - 1, api.ErrRange}, {api.MaxTime, 0, api.ErrRange},
		{-1, 5, api.ErrRange}, {-1, -1, api.ErrRange}, {-1, 0, api.ErrRange}, {-5, -2, api.ErrRange}, {0, -1, api.ErrRange},
		{5, api.MaxTime + 1, api.ErrRange}, {api.MaxTime, api.MaxTime + 1, api.ErrRange}, {api.MaxTime + 1, api.MaxTime + 1, api.ErrRange},
		{api.MaxTime + 1, 5, api.ErrRange}, {0, most, api.ErrRange}, {most, most, api.ErrRange}, {most, 0, api.ErrRange},
		{least, 5, api.ErrRange}, {least, least, api.ErrRange}, {least, most, api.ErrRange}, {most, least, api.ErrRange},
	} {
		for kind := api.FDrop; kind <= api.FCut; kind++ {
			check(t, 2, fault(kind, 1, 0, x.from, x.until, 0), x.e)
		}
	}
}

func TestCheckExtra(t *testing.T) {
	for _, x := range []struct {
		extra      int
		late, lost api.Errno // for the kinds that take longer, and for the others
	}{
		{least, api.ErrRange, api.ErrRange}, {-api.MaxTime, api.ErrRange, api.ErrRange}, {-1, api.ErrRange, api.ErrRange},
		{0, api.OK, api.OK}, {1, api.OK, api.ErrRange}, {100, api.OK, api.ErrRange},
		{api.MaxTime - 1, api.OK, api.ErrRange}, {api.MaxTime, api.OK, api.ErrRange},
		{api.MaxTime + 1, api.ErrRange, api.ErrRange}, {most, api.ErrRange, api.ErrRange},
	} {
		check(t, 2, fault(api.FDrop, 0, 1, 3, 9, x.extra), x.lost)
		check(t, 2, fault(api.FDelay, 0, 1, 3, 9, x.extra), x.late)
		check(t, 2, fault(api.FDuplicate, 0, 1, 3, 9, x.extra), x.late)
		check(t, 2, fault(api.FCut, 0, 1, 3, 9, x.extra), x.lost)
	}
}

// All faults of numbers near the limits.
func TestCheckOfManyFaults(t *testing.T) {
	counts := map[bool]int{}
	times := []int{least, -1, 0, 1, api.MaxTime - 1, api.MaxTime, api.MaxTime + 1, most}
	for _, nodes := range []int{least, -1, 0, 1, 2, api.MaxNodes, api.MaxNodes + 1, most} {
		for _, kind := range []int{least, -1, 0, 1, 2, 3, 4, 5, most} {
			for _, ends := range [][2]int{{0, 1}, {1, 0}, {0, 0}, {-1, 0}, {0, 2}, {2, 0}, {0, 7}, {7, 1}, {8, 0}, {0, 8}, {least, 1}, {1, most}} {
				for _, from := range times {
					for _, until := range times {
						for _, extra := range times {
							f := fault(kind, ends[0], ends[1], from, until, extra)
							want := api.ErrRange
							if valid(nodes, f) {
								want = api.OK
							}
							if e := network.Check(nodes, f); e != want {
								t.Fatalf("Check(%d, %v) = %v, want %v", nodes, f, e, want)
							}
							counts[want == api.OK]++
						}
					}
				}
			}
		}
	}
	if counts[true] < 500 || counts[false] < 100000 {
		t.Errorf("%v", counts)
	}
}

// P14.1

// refused checks that New returns an error, and nothing else.
func refused(t *testing.T, s setup, want api.Errno) {
	t.Helper()
	if n, e := network.New(s.nodes, s.latency, s.faults); n != nil || e != want {
		t.Errorf("New(%d, %d, %d faults) = %v, %v, want %v", s.nodes, s.latency, len(s.faults), n, e, want)
	}
}

func TestNew(t *testing.T) {
	latencies := []int{least, -api.MaxTime, -1, 0, 1, 10, api.MaxTime - 1, api.MaxTime, api.MaxTime + 1, most}
	for _, nodes := range []int{least, -1, 0, 1, 2, api.MaxNodes - 1, api.MaxNodes, api.MaxNodes + 1, most} {
		for _, latency := range latencies {
			s := setup{nodes: nodes, latency: latency}
			if nodes < 1 || nodes > 8 || latency < 0 || latency > 1<<40 {
				refused(t, s, api.ErrRange)
				continue
			}
			p := s.pair(t)
			p.expect(t, state{})
			p.play(t, step{receive(most), done()})
			p.expect(t, state{})
		}
	}
	if plain(2).network(t) == plain(2).network(t) {
		t.Error("New returns the same network again")
	}
}

// Between which nodes can be sent.
func TestNodes(t *testing.T) {
	for nodes := 1; nodes <= api.MaxNodes; nodes++ {
		for from := -1; from <= api.MaxNodes; from++ {
			for to := -1; to <= api.MaxNodes; to++ {
				want := number(1)
				if from < 0 || to < 0 || from >= nodes || to >= nodes || from == to {
					want = failed(api.ErrRange)
				}
				plain(nodes).play(t, step{send(0, from, to, "a"), want})
			}
		}
	}
}

func TestLatency(t *testing.T) {
	for _, latency := range []int{0, 1, 10, 5000, api.MaxTime - 1, api.MaxTime} {
		for _, at := range []int{0, 1, 99, api.MaxTime - 1, api.MaxTime} {
			setup{2, latency, nil}.arrivesAt(t, at, 1, 0, at+latency)
		}
	}
}

func TestNumberOfFaults(t *testing.T) {
	good := always(api.FDelay, 0, 1, 3)
	for _, n := range []int{0, 1, 2, api.MaxFaults - 1, api.MaxFaults} {
		plain(2, slices.Repeat([]api.Fault{good}, n)...).arrivesAt(t, 5, 0, 1, 15+3*n)
	}
	setup{2, 10, []api.Fault{}}.arrivesAt(t, 5, 0, 1, 15)
	for _, n := range []int{api.MaxFaults + 1, 2 * api.MaxFaults, 5000} {
		refused(t, plain(2, slices.Repeat([]api.Fault{good}, n)...), api.ErrLong)
	}
}

func TestOrderOfErrorsOfNew(t *testing.T) {
	good, bad := always(api.FDelay, 0, 1, 3), api.Fault{}
	many, few := slices.Repeat([]api.Fault{good}, 65), slices.Repeat([]api.Fault{good}, 64)
	badMany := slices.Repeat([]api.Fault{bad}, 65)
	for _, nodes := range []int{least, 0, 9, most} {
		for _, latency := range []int{least, -1, 10, api.MaxTime + 1} {
			for _, faults := range [][]api.Fault{nil, {good}, {bad}, few, many, badMany} {
				refused(t, setup{nodes, latency, faults}, api.ErrRange)
			}
		}
	}
	for _, latency := range []int{least, -1, api.MaxTime + 1, most} {
		for _, faults := range [][]api.Fault{nil, {good}, {bad}, few, many, badMany} {
			refused(t, setup{2, latency, faults}, api.ErrRange)
		}
	}
	refused(t, plain(2, many...), api.ErrLong)
	refused(t, plain(2, badMany...), api.ErrLong)
	refused(t, plain(1, many...), api.ErrLong) // none of them is one of this network
	refused(t, plain(2, slices.Repeat([]api.Fault{bad}, 64)...), api.ErrRange)
}

// An error of any of the faults, wherever it is.
func TestBadFaultInAList(t *testing.T) {
	for k := range api.MaxFaults {
		for _, bad := range []api.Fault{{}, always(api.FDrop, 0, 1, 1), always(api.FDelay, 0, 2, 1), always(api.FDelay, 1, 1, 1), fault(api.FCut, 0, 1, 5, 4, 0)} {
			faults := slices.Repeat([]api.Fault{always(api.FDelay, 0, 1, 3)}, api.MaxFaults)
			faults[k] = bad
			refused(t, plain(2, faults...), api.ErrRange)
			refused(t, plain(2, faults[:k+1]...), api.ErrRange)
		}
	}
}
