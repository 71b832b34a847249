package panel_test

import (
	"math"
	"math/rand"
	"slices"
	"testing"

	"clavecin/api"
	"clavecin/panel"
)

// The signatures that the document lists.
var (
	_ func(w, h, kerf int, shapes []api.Shape) api.Errno                                    = panel.Check
	_ func(w, h, kerf int, shapes []api.Shape) ([][]int, api.Errno)                         = panel.Table
	_ func(w, h, kerf int, shapes []api.Shape) ([]api.Cut, int, api.Errno)                  = panel.Best
	_ func(w, h, kerf int, shapes []api.Shape, plan []api.Cut) (int, api.Errno)             = panel.Worth
	_ func(w, h, kerf int, shapes []api.Shape, plan []api.Cut) (_ []api.Piece, e api.Errno) = panel.Layout
	_ func(w, h, kerf int, shapes []api.Shape, plan []api.Cut) ([]int, api.Errno)           = panel.Counts
	_ func(w, h, kerf int, shapes []api.Shape, plan []api.Cut) (n int, e api.Errno)         = panel.Waste
	_ func(w, h, kerf int, shapes []api.Shape) (int, api.Errno)                             = panel.Ceiling
	_ func(w, h, kerf int, shapes []api.Shape, wants []int) (int, api.Errno)                = panel.Sheets
)

func newRand() *rand.Rand { return rand.New(rand.NewSource(1)) }

// between returns a random number from low to high.
func between(r *rand.Rand, low, high int) int { return low + r.Intn(high-low+1) }

// A board is a panel with its shapes.
type board struct {
	w, h, kerf int
	shapes     []api.Shape
}

func newBoard(w, h, kerf int, shapes ...api.Shape) board { return board{w, h, kerf, shapes} }

func (b board) table() ([][]int, api.Errno)        { return panel.Table(b.w, b.h, b.kerf, b.shapes) }
func (b board) best() ([]api.Cut, int, api.Errno)  { return panel.Best(b.w, b.h, b.kerf, b.shapes) }
func (b board) ceiling() (int, api.Errno)          { return panel.Ceiling(b.w, b.h, b.kerf, b.shapes) }
func (b board) sheets(n ...int) (int, api.Errno)   { return panel.Sheets(b.w, b.h, b.kerf, b.shapes, n) }
func (b board) worth(p []api.Cut) (int, api.Errno) { return panel.Worth(b.w, b.h, b.kerf, b.shapes, p) }
func (b board) waste(p []api.Cut) (int, api.Errno) { return panel.Waste(b.w, b.h, b.kerf, b.shapes, p) }
func (b board) layout(p []api.Cut) ([]api.Piece, api.Errno) {
	return panel.Layout(b.w, b.h, b.kerf, b.shapes, p)
}
func (b board) counts(p []api.Cut) ([]int, api.Errno) {
	return panel.Counts(b.w, b.h, b.kerf, b.shapes, p)
}

// fixed and turning return shapes that may not, and may, be turned.
func fixed(w, h, value int) api.Shape   { return api.Shape{W: w, H: h, Value: value} }
func turning(w, h, value int) api.Shape { return api.Shape{W: w, H: h, Value: value, Turn: true} }

// The cuts of a plan.
func waste() api.Cut           { return api.Cut{Kind: api.CutWaste} }
func shape(number int) api.Cut { return api.Cut{Kind: api.CutShape, At: number} }
func turn(number int) api.Cut  { return api.Cut{Kind: api.CutTurned, At: number} }
func across(at int) api.Cut    { return api.Cut{Kind: api.CutAcross, At: at} }
func down(at int) api.Cut      { return api.Cut{Kind: api.CutDown, At: at} }

func planOf(cuts ...api.Cut) []api.Cut { return cuts }

// The document's examples.

func twoPieces() board { return newBoard(5, 3, 1, fixed(2, 3, 10)) }
func oneTurned() board { return newBoard(3, 2, 0, turning(2, 3, 7)) }
func noRest() board    { return newBoard(2, 1, 1, fixed(1, 1, 5)) }

// anyShapes returns valid shapes with sides up to a length and values up to most.
func anyShapes(r *rand.Rand, count, side, most int) []api.Shape {
	shapes := make([]api.Shape, count)
	for i := range shapes {
		shapes[i] = api.Shape{W: between(r, 1, side), H: between(r, 1, side), Value: between(r, 0, most), Turn: r.Intn(2) == 0}
	}
	return shapes
}

// sizes are the widths and heights of panels that are small enough to try everything.
var sizes = [][2]int{{1, 1}, {2, 1}, {1, 2}, {3, 1}, {2, 2}, {1, 4}, {5, 1}, {3, 2}, {2, 3}}

// smallBoard returns a panel that is small enough to try everything, with many ties.
func smallBoard(r *rand.Rand) board {
	size := sizes[r.Intn(len(sizes))]
	most := []int{0, 1, 2, 5, 20}[r.Intn(5)]
	return newBoard(size[0], size[1], []int{0, 0, 1, 2}[r.Intn(4)], anyShapes(r, between(r, 0, 3), 3, most)...)
}

// anyBoard returns a panel of any size whose shapes often fit.
func anyBoard(r *rand.Rand) board {
	b := newBoard(between(r, 1, 64), between(r, 1, 64), between(r, 0, 8))
	b.shapes = anyShapes(r, between(r, 0, 16), max(b.w, b.h), []int{3, 100, 1000000}[r.Intn(3)])
	return b
}

// faulty returns panels that are not valid.
func faulty() []board {
	good := []api.Shape{fixed(2, 3, 10), turning(1, 1, 0)}
	list := []board{newBoard(5, 3, 0, make([]api.Shape, 1)...), newBoard(5, 3, 0, slices.Repeat(good, 9)...), newBoard(5, 3, 0, slices.Repeat(good[:1], 17)...),
		newBoard(5, 3, 0, slices.Repeat(good, 1000)...), newBoard(0, 0, 0), {}, newBoard(0, 0, 9, fixed(0, 0, -1))}
	for _, n := range []int{0, -1, 65, 1000, math.MinInt, math.MaxInt} {
		list = append(list, newBoard(n, 3, 1, good...), newBoard(5, n, 1, good...), newBoard(n, n, 1), newBoard(n, 1, 0), newBoard(1, n, 0))
		for _, bad := range []api.Shape{fixed(n, 3, 1), fixed(3, n, 1), turning(n, 3, 1), turning(3, n, 1)} {
			list = append(list, newBoard(5, 3, 1, bad), newBoard(5, 3, 1, good[0], bad), newBoard(5, 3, 1, bad, good[1]))
		}
	}
	for _, n := range []int{-1, 9, 1000, math.MinInt, math.MaxInt} {
		list = append(list, newBoard(5, 3, n, good...), newBoard(5, 3, n))
	}
	for _, n := range []int{-1, 1000001, math.MinInt, math.MaxInt} {
		list = append(list, newBoard(5, 3, 1, fixed(2, 3, n)), newBoard(5, 3, 1, turning(60, 60, n)), newBoard(5, 3, 1, good[0], fixed(2, 3, n)))
	}
	return list
}

// everyPlan returns all plans of a rectangle, those that Best prefers if they are worth the same first.
func (b board) everyPlan(w, h int) [][]api.Cut {
	if w < 1 || h < 1 {
		return [][]api.Cut{nil}
	}
	plans := [][]api.Cut{planOf(waste())}
	for i, s := range b.shapes {
		if s.W == w && s.H == h {
			plans = append(plans, planOf(shape(i)))
		}
		if s.Turn && s.W == h && s.H == w {
			plans = append(plans, planOf(turn(i)))
		}
	}
	for x := 1; x <= w-1; x++ {
		plans = append(plans, joined(across(x), b.everyPlan(x, h), b.everyPlan(w-x-b.kerf, h))...)
	}
	for y := 1; y <= h-1; y++ {
		plans = append(plans, joined(down(y), b.everyPlan(w, y), b.everyPlan(w, h-y-b.kerf))...)
	}
	return plans
}

// joined returns the plans that a cut makes of all plans of two parts.
func joined(cut api.Cut, firsts, seconds [][]api.Cut) [][]api.Cut {
	var plans [][]api.Cut
	for _, first := range firsts {
		for _, second := range seconds {
			plans = append(plans, slices.Concat(planOf(cut), first, second))
		}
	}
	return plans
}

// value returns the value of a plan by adding up its shapes.
func (b board) value(plan []api.Cut) int {
	sum := 0
	for _, cut := range plan {
		if cut.Kind == api.CutShape || cut.Kind == api.CutTurned {
			sum += b.shapes[cut.At].Value
		}
	}
	return sum
}

// A node is a cut of a plan with the rectangle that it is done with.
type node struct {
	x, y, w, h int
	cut        api.Cut
}

// nodes returns the nodes of a plan that is known to be valid.
func (b board) nodes(plan []api.Cut) []node {
	var list []node
	var walk func(x, y, w, h int)
	walk = func(x, y, w, h int) {
		if w < 1 || h < 1 {
			return
		}
		cut := plan[len(list)]
		list = append(list, node{x, y, w, h, cut})
		switch cut.Kind {
		case api.CutAcross:
			walk(x, y, cut.At, h)
			walk(x+cut.At+b.kerf, y, w-cut.At-b.kerf, h)
		case api.CutDown:
			walk(x, y, w, cut.At)
			walk(x, y+cut.At+b.kerf, w, h-cut.At-b.kerf)
		}
	}
	walk(0, 0, b.w, b.h)
	return list
}

// anyPlan returns a plan of a rectangle, which is cut as often as not.
func (b board) anyPlan(r *rand.Rand, w, h int) []api.Cut {
	if w < 1 || h < 1 {
		return nil
	}
	var ends []api.Cut
	for i, s := range b.shapes {
		if s.W == w && s.H == h {
			ends = append(ends, shape(i))
		}
		if s.Turn && s.W == h && s.H == w {
			ends = append(ends, turn(i))
		}
	}
	switch choice := r.Intn(10); {
	case len(ends) > 0 && choice < 6:
		return planOf(ends[r.Intn(len(ends))])
	case w > 1 && (h == 1 || choice%2 == 0) && choice > 0:
		x := between(r, 1, w-1)
		return slices.Concat(planOf(across(x)), b.anyPlan(r, x, h), b.anyPlan(r, w-x-b.kerf, h))
	case h > 1 && choice > 0:
		y := between(r, 1, h-1)
		return slices.Concat(planOf(down(y)), b.anyPlan(r, w, y), b.anyPlan(r, w, h-y-b.kerf))
	}
	return planOf(waste())
}

func sameTable(a, b [][]int) bool { return slices.EqualFunc(a, b, slices.Equal[[]int]) }

func copyTable(table [][]int) [][]int {
	other := slices.Clone(table)
	for i := range other {
		other[i] = slices.Clone(other[i])
	}
	return other
}

func wantInt(t *testing.T, name string, got int, err api.Errno, want int, wantErr api.Errno) {
	t.Helper()
	if got != want || err != wantErr {
		t.Errorf("%s: %d, error %d, want %d, error %d", name, got, err, want, wantErr)
	}
}

func wantList[E comparable](t *testing.T, name string, got []E, err api.Errno, want []E, wantErr api.Errno) {
	t.Helper()
	if !slices.Equal(got, want) || err != wantErr {
		t.Errorf("%s: %v, error %d, want %v, error %d", name, got, err, want, wantErr)
	}
}

// wantTable tells whether a panel has a table.
func wantTable(t *testing.T, b board, want [][]int) {
	t.Helper()
	table, err := b.table()
	if !sameTable(table, want) || err != api.OK {
		t.Errorf("Table of %v: %v, error %d, want %v", b, table, err, want)
	}
}

// wantBest tells whether a panel has a best plan.
func wantBest(t *testing.T, b board, want []api.Cut, value int) {
	t.Helper()
	plan, n, err := b.best()
	if !slices.Equal(plan, want) || n != value || err != api.OK {
		t.Errorf("Best of %v: %v, %d, error %d, want %v, %d", b, plan, n, err, want, value)
	}
}

// wantRefused tells whether all functions that read a plan refuse it.
func wantRefused(t *testing.T, b board, plan []api.Cut, want api.Errno) {
	t.Helper()
	n, err := b.worth(plan)
	wantInt(t, "Worth", n, err, 0, want)
	pieces, err := b.layout(plan)
	wantList(t, "Layout", pieces, err, nil, want)
	counts, err := b.counts(plan)
	wantList(t, "Counts", counts, err, nil, want)
	n, err = b.waste(plan)
	wantInt(t, "Waste", n, err, 0, want)
	if t.Failed() {
		t.Fatalf("the panel is %v, the plan %v", b, plan)
	}
}

// wantRead tells whether all functions that read a plan, which is known to be valid, say the same as its nodes.
func wantRead(t *testing.T, b board, plan []api.Cut) {
	t.Helper()
	var want []api.Piece
	counts, bare := make([]int, len(b.shapes)), b.w*b.h
	for _, n := range b.nodes(plan) {
		if n.cut.Kind == api.CutShape || n.cut.Kind == api.CutTurned {
			want = append(want, api.Piece{X: n.x, Y: n.y, W: n.w, H: n.h, Shape: n.cut.At})
			counts[n.cut.At]++
			bare -= n.w * n.h
		}
	}
	n, err := b.worth(plan)
	wantInt(t, "Worth", n, err, b.value(plan), api.OK)
	pieces, err := b.layout(plan)
	wantList(t, "Layout", pieces, err, want, api.OK)
	list, err := b.counts(plan)
	wantList(t, "Counts", list, err, counts, api.OK)
	n, err = b.waste(plan)
	wantInt(t, "Waste", n, err, bare, api.OK)
	if t.Failed() {
		t.Fatalf("the panel is %v, the plan %v", b, plan)
	}
}
