package panel

import "clavecin/api"

// rectangle is a part of a panel, with its upper left corner.
type rectangle struct {
	x, y, w, h int
}

// across cuts a rectangle at a width. What the saw leaves of the right part may be empty.
func (r rectangle) across(at, kerf int) (left, right rectangle) {
	left, right = r, r
	left.w = at
	right.x += at + kerf
	right.w -= at + kerf
	return left, right
}

// down cuts a rectangle at a height. What the saw leaves of the lower part may be empty.
func (r rectangle) down(at, kerf int) (upper, lower rectangle) {
	upper, lower = r, r
	upper.h = at
	lower.y += at + kerf
	lower.h -= at + kerf
	return upper, lower
}

func (r rectangle) isEmpty() bool {
	return r.w < 1 || r.h < 1
}

func (r rectangle) isShape(shape api.Shape) bool {
	return r.w == shape.W && r.h == shape.H
}

func (r rectangle) isTurned(shape api.Shape) bool {
	return shape.Turn && r.w == shape.H && r.h == shape.W
}
