package fixed

import "robotics/api"

// Length returns the length of a vector, rounded down.
func Length(p api.Point) int {
	return int(Root(square(p)))
}

// Distance returns the distance of two points, rounded down.
func Distance(a, b api.Point) int {
	return Length(Sub(a, b))
}

// Scale returns p shortened to a length of at most most.
func Scale(p api.Point, most int) api.Point {
	most = max(most, 0)
	length := lengthUp(p)
	// This is whether the square of p is at most that of most, which need not
	// fit into an int.
	if length <= most {
		return p
	}
	return api.Point{X: p.X * most / length, Y: p.Y * most / length}
}

// Add returns the sum of two vectors.
func Add(a, b api.Point) api.Point {
	return api.Point{X: a.X + b.X, Y: a.Y + b.Y}
}

// Sub returns the difference of two vectors.
func Sub(a, b api.Point) api.Point {
	return api.Point{X: a.X - b.X, Y: a.Y - b.Y}
}

// Dot returns the scalar product.
func Dot(a, b api.Point) int {
	return a.X*b.X + a.Y*b.Y
}

// square returns the square of the length of p.
func square(p api.Point) int64 {
	return int64(Dot(p, p))
}

// lengthUp returns the length of p, rounded up.
func lengthUp(p api.Point) int {
	length := Root(square(p))
	if length*length < square(p) {
		length++
	}
	return int(length)
}
