package packet_test

import (
	"math/rand"
	"slices"
	"strings"
	"testing"

	"robotics/api"
	"robotics/packet"
)

// assembler is what an assembler can do; the model is one, too.
type assembler interface {
	Add(from int, f api.Fragment) (string, bool, api.Errno)
	Open() int
}

// model is an assembler that forgets nothing: it has everything that was ever
// completed, and finds out what of it is to be remembered.
type model struct {
	most      int
	open      []*unfinished // in the order in which they were begun
	completed [][2]int      // senders and Ids
}

// unfinished is an incomplete string.
type unfinished struct {
	from, id, count int
	data            map[int]string
}

func newModel(most int) *model { return &model{most: max(1, min(256, most))} }

func (m *model) find(from, id int) *unfinished {
	for _, u := range m.open {
		if u.from == from && u.id == id {
			return u
		}
	}
	return nil
}

// lastOf returns the last 64 Ids of a sender that were completed.
func (m *model) lastOf(from int) (ids []int) {
	for i := len(m.completed) - 1; i >= 0 && len(ids) < 64; i-- {
		if m.completed[i][0] == from {
			ids = append(ids, m.completed[i][1])
		}
	}
	return ids
}

func (m *model) Add(from int, f api.Fragment) (string, bool, api.Errno) {
	if !between(from, 0, api.MaxNodes-1) || !validFragment(f) {
		return "", false, api.ErrRange
	}
	u := m.find(from, f.Id)
	if u != nil {
		data, there := u.data[f.Index]
		if u.count != f.Count || there && data != f.Data {
			return "", false, api.ErrFormat
		}
		if there {
			return "", false, api.OK
		}
	}
	if slices.Contains(m.lastOf(from), f.Id) {
		return "", false, api.OK
	}
	if u == nil {
		u = &unfinished{from, f.Id, f.Count, map[int]string{}}
		m.open = append(m.open, u)
	}
	u.data[f.Index] = f.Data
	if len(u.data) == u.count {
		return m.complete(u), true, api.OK
	}
	if len(m.open) > m.most {
		m.open = m.open[1:]
	}
	return "", false, api.OK
}

func (m *model) complete(u *unfinished) string {
	m.open = slices.DeleteFunc(m.open, func(other *unfinished) bool { return other == u })
	m.completed = append(m.completed, [2]int{u.from, u.id})
	var all []string
	for index := range u.count {
		all = append(all, u.data[index])
	}
	return strings.Join(all, "")
}

func (m *model) Open() int { return len(m.open) }

// call is a call of Add.
type call struct {
	from int
	f    api.Fragment
}

// outcome is what Add returns.
type outcome struct {
	s    string
	done bool
	e    api.Errno
}

func (x call) on(a assembler) (o outcome) {
	o.s, o.done, o.e = a.Add(x.from, x.f)
	return o
}

// brief leaves out most of what is long.
func (x call) brief() call { return call{x.from, short(x.f)} }

func (o outcome) brief() outcome {
	o.s = o.s[:min(len(o.s), 12)]
	return o
}

// The outcomes of calls.

func given(s string) outcome { return outcome{s: s, done: true} }

func nothing() outcome { return outcome{} }

func failed(e api.Errno) outcome { return outcome{e: e} }

// pair is an assembler with a model of it, on which the same calls are made.
type pair struct {
	assembler *packet.Assembler
	model     *model
}

func newPair(most int) pair { return pair{packet.NewAssembler(most), newModel(most)} }

// run makes a call, checks the assembler against the model, and returns the outcome.
func (p pair) run(t *testing.T, x call) outcome {
	t.Helper()
	got, want := x.on(p.assembler), x.on(p.model)
	if got != want {
		t.Fatalf("Add(%v) = %v, want %v", x.brief(), got.brief(), want.brief())
	}
	if got, want := p.assembler.Open(), p.model.Open(); got != want {
		t.Fatalf("after Add(%v): Open = %d, want %d", x.brief(), got, want)
	}
	return got
}

// adds makes a call and checks its outcome, and the number of incomplete strings
// after it. What is written out holds for the model, too.
func (p pair) adds(t *testing.T, from int, f api.Fragment, want outcome, open int) {
	t.Helper()
	x := call{from, f}
	if got := p.run(t, x); got != want {
		t.Fatalf("Add(%v) = %v, want %v", x.brief(), got.brief(), want.brief())
	}
	if got := p.assembler.Open(); got != open {
		t.Fatalf("after Add(%v): Open = %d, want %d", x.brief(), got, open)
	}
}

// probe checks what is in the assembler, by calls that change nothing.
func (p pair) probe(t *testing.T) {
	t.Helper()
	for _, u := range p.model.open {
		if o := p.run(t, call{u.from, fragment(u.id, 0, u.count-1, "")}); o.e != api.ErrFormat {
			t.Fatalf("%v", o)
		}
		for index, data := range u.data {
			p.run(t, call{u.from, fragment(u.id, index, u.count, data+"!")})
			p.run(t, call{u.from, fragment(u.id, index, u.count, data)})
		}
	}
	for from := range api.MaxNodes {
		for _, id := range p.model.lastOf(from) {
			if o := p.run(t, call{from, fragment(id, 1, 2, "?")}); o != nothing() {
				t.Fatalf("%v", o)
			}
		}
	}
}

// caller makes random calls. How many senders and Ids there are, and how long
// strings are, is its own.
type caller struct {
	r                    *rand.Rand
	senders, ids, counts int
	strange              int // one in so many fragments is another one than is expected
}

func newCaller(r *rand.Rand) caller {
	x := caller{r: r, senders: 1 + r.Intn(3), ids: 1 << r.Intn(9), counts: 1 + r.Intn(5), strange: 1 << (3 + r.Intn(8))}
	if r.Intn(6) == 0 {
		x.senders = api.MaxNodes
	}
	if r.Intn(6) == 0 {
		x.counts = 1 + r.Intn(api.MaxFragment)
	}
	return x
}

// next returns a call. Fragments of the same sender and Id mostly suit each
// other.
func (x caller) next() call {
	from, id := x.r.Intn(x.senders), x.r.Intn(x.ids)
	count := 1 + (id*7+from)%x.counts
	f := fragment(id, x.r.Intn(count), count, "")
	f.Data = strings.Repeat(string(rune('a'+(id+3*f.Index)%26)), (id+f.Index)%3)
	if x.r.Intn(x.strange) > 0 {
		return call{from, f}
	}
	near := numbersNear()
	switch n := near[x.r.Intn(len(near))]; x.r.Intn(7) {
	case 0:
		f.Data += "!"
	case 1:
		f.Data = text(api.MaxText + x.r.Intn(2))
	case 2:
		f.Count++
	case 3:
		f.Id = n
	case 4:
		f.Index = n
	case 5:
		f.Count = n
	default:
		from = n
	}
	return call{from, f}
}
