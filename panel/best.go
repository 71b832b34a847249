package panel

import "clavecin/api"

// Table returns the greatest value of every rectangle.
func Table(w, h, kerf int, shapes []api.Shape) ([][]int, api.Errno) {
	if err := Check(w, h, kerf, shapes); err != api.OK {
		return nil, err
	}
	s := newSaw(w, h, kerf, shapes)
	table := make([][]int, w)
	for i := range table {
		table[i] = make([]int, h)
		for j := range table[i] {
			table[i][j] = s.best[i+1][j+1].value
		}
	}
	return table, api.OK
}

// Best returns a plan of the greatest value.
func Best(w, h, kerf int, shapes []api.Shape) ([]api.Cut, int, api.Errno) {
	if err := Check(w, h, kerf, shapes); err != api.OK {
		return nil, 0, err
	}
	s := newSaw(w, h, kerf, shapes)
	return s.addPlan(nil, rectangle{w: w, h: h}), s.best[w][h].value, api.OK
}

// choice is what is done with a rectangle, and the value that is reached thus.
type choice struct {
	cut   api.Cut
	value int
}

// offer takes a cut that reaches a greater value. Of several that reach the greatest one the first remains.
func (c *choice) offer(kind, at, value int) {
	if value > c.value {
		*c = choice{api.Cut{Kind: kind, At: at}, value}
	}
}

// saw knows the best choice for each rectangle, by width and height.
type saw struct {
	kerf   int
	shapes []api.Shape
	best   [api.MaxSide + 1][api.MaxSide + 1]choice
}

// newSaw returns a saw for all rectangles of at most that width and height: every part of one comes before it.
func newSaw(w, h, kerf int, shapes []api.Shape) *saw {
	s := &saw{kerf: kerf, shapes: shapes}
	for i := 1; i <= w; i++ {
		for j := 1; j <= h; j++ {
			s.best[i][j] = s.choose(rectangle{w: i, h: j})
		}
	}
	return s
}

// choose returns the best choice for a rectangle, given those for its parts.
func (s *saw) choose(r rectangle) choice {
	c := choice{cut: api.Cut{Kind: api.CutWaste}}
	for i, shape := range s.shapes {
		if r.isShape(shape) {
			c.offer(api.CutShape, i, shape.Value)
		}
		if r.isTurned(shape) {
			c.offer(api.CutTurned, i, shape.Value)
		}
	}
	for x := 1; x < r.w; x++ {
		left, right := r.across(x, s.kerf)
		c.offer(api.CutAcross, x, s.value(left)+s.value(right))
	}
	for y := 1; y < r.h; y++ {
		upper, lower := r.down(y, s.kerf)
		c.offer(api.CutDown, y, s.value(upper)+s.value(lower))
	}
	return c
}

func (s *saw) value(r rectangle) int {
	if r.isEmpty() {
		return 0
	}
	return s.best[r.w][r.h].value
}

// addPlan adds the best plan of a rectangle to a plan.
func (s *saw) addPlan(plan []api.Cut, r rectangle) []api.Cut {
	if r.isEmpty() {
		return plan
	}
	cut := s.best[r.w][r.h].cut
	plan = append(plan, cut)
	switch cut.Kind {
	case api.CutAcross:
		left, right := r.across(cut.At, s.kerf)
		plan = s.addPlan(s.addPlan(plan, left), right)
	case api.CutDown:
		upper, lower := r.down(cut.At, s.kerf)
		plan = s.addPlan(s.addPlan(plan, upper), lower)
	}
	return plan
}
