package packet

import (
	"cmp"
	"slices"
	"strings"

	"robotics/api"
)

const (
	mostOpen   = 256 // incomplete strings that an assembler can keep
	remembered = 64  // Ids of a sender that were completed
)

// Assembler collects the fragments of strings until they are complete.
type Assembler struct {
	most      int // incomplete strings
	fragments map[key][]api.Fragment
	begun     []key               // of fragments, in the order in which the strings were begun
	completed [api.MaxNodes][]int // the last Ids of each sender
}

// key is a sender and an Id.
type key [2]int

// NewAssembler returns an assembler of at most most incomplete strings.
func NewAssembler(most int) *Assembler {
	return &Assembler{most: min(max(most, 1), mostOpen), fragments: map[key][]api.Fragment{}}
}

// Add adds a fragment and returns the string that it completes.
func (a *Assembler) Add(from int, f api.Fragment) (string, bool, api.Errno) {
	if a == nil || a.fragments == nil {
		return "", false, api.ErrNone
	}
	if !isIn(from, 0, api.MaxNodes-1) || !isValid(f) {
		return "", false, api.ErrRange
	}
	k := key{from, f.Id}
	list := a.fragments[k]
	place, known := find(list, f.Index)
	if len(list) > 0 && list[0].Count != f.Count || known && list[place].Data != f.Data {
		return "", false, api.ErrFormat
	}
	if known || slices.Contains(a.completed[from], f.Id) {
		return "", false, api.OK
	}
	list = slices.Insert(list, place, f)
	if len(list) < f.Count {
		a.keep(k, list)
		return "", false, api.OK
	}
	a.complete(from, f.Id)
	return join(list), true, api.OK
}

// Open returns the number of incomplete strings.
func (a *Assembler) Open() int {
	if a == nil {
		return 0
	}
	return len(a.fragments)
}

// keep keeps the fragments of an incomplete string. If it is a new one, and
// there is no room for it, the string that was begun first is dropped.
func (a *Assembler) keep(k key, list []api.Fragment) {
	if len(a.fragments[k]) == 0 {
		a.begun = append(a.begun, k)
	}
	a.fragments[k] = list
	if len(a.begun) > a.most {
		a.remove(a.begun[0])
	}
}

// complete remembers the Id of a string that is complete, and removes the
// string.
func (a *Assembler) complete(from, id int) {
	a.remove(key{from, id})
	ids := append(a.completed[from], id)
	a.completed[from] = ids[max(0, len(ids)-remembered):]
}

// remove removes a string, if there is one of this key.
func (a *Assembler) remove(k key) {
	delete(a.fragments, k)
	a.begun = slices.DeleteFunc(a.begun, func(other key) bool { return other == k })
}

// find returns the place of the fragment with this Index in a list that is
// sorted by it, and whether it is there.
func find(list []api.Fragment, index int) (int, bool) {
	return slices.BinarySearchFunc(list, index, func(f api.Fragment, index int) int {
		return cmp.Compare(f.Index, index)
	})
}

// join returns the string that fragments make up.
func join(list []api.Fragment) string {
	var b strings.Builder
	for _, f := range list {
		b.WriteString(f.Data)
	}
	return b.String()
}
