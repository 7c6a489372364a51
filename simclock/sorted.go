package simclock

import "slices"

// ordered is what the elements of a sorted list can do.
type ordered[T any] interface {
	// compare returns a negative number if the element is before the other
	// one, and a positive number if it is behind it.
	compare(other T) int
}

// sorted is a list whose elements are in their order.
type sorted[T ordered[T]] struct {
	elements []T
}

// add puts an element in its place.
func (s *sorted[T]) add(element T) {
	at, _ := slices.BinarySearchFunc(s.elements, element, func(a, b T) int { return a.compare(b) })
	s.elements = slices.Insert(s.elements, at, element)
}

// first returns the first element, or false if there is none.
func (s *sorted[T]) first() (T, bool) {
	if len(s.elements) == 0 {
		var none T
		return none, false
	}
	return s.elements[0], true
}

// removeFirst removes the first element, if there is one.
func (s *sorted[T]) removeFirst() {
	if len(s.elements) > 0 {
		s.elements = slices.Delete(s.elements, 0, 1)
	}
}

// remove removes the first element that is meant, and reports whether there
// was one.
func (s *sorted[T]) remove(meant func(T) bool) bool {
	at := slices.IndexFunc(s.elements, meant)
	if at < 0 {
		return false
	}
	s.elements = slices.Delete(s.elements, at, at+1)
	return true
}

// clone returns a list with the same elements in memory of its own.
func (s *sorted[T]) clone() sorted[T] {
	return sorted[T]{elements: slices.Clone(s.elements)}
}
