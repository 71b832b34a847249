package panel_test

import (
	"math"
	"math/rand"
	"slices"
	"strconv"
	"strings"
	"testing"

	"clavecin/api"
)

// large is a panel for plans that are written out.
func large() board { return newBoard(9, 7, 1, fixed(2, 3, 10), turning(4, 1, 6), turning(2, 2, 5)) }

func TestLayout(t *testing.T) {
	for _, c := range []struct {
		b      board
		plan   []api.Cut
		pieces []api.Piece
		worth  int
		counts []int
		waste  int
	}{
		{twoPieces(), planOf(across(2), shape(0), shape(0)), []api.Piece{{W: 2, H: 3}, {X: 3, W: 2, H: 3}}, 20, []int{2}, 3},
		{oneTurned(), planOf(turn(0)), []api.Piece{{W: 3, H: 2}}, 7, []int{1}, 0},
		{newBoard(4, 4, 0), planOf(waste()), nil, 0, nil, 16},
		{noRest(), planOf(across(1), shape(0)), []api.Piece{{W: 1, H: 1}}, 5, []int{1}, 1},
		{large(), planOf(waste()), nil, 0, []int{0, 0, 0}, 63},
		{large(), planOf(across(2), down(3), shape(0), shape(0), across(4), down(1), shape(1), waste(), waste()),
			[]api.Piece{{W: 2, H: 3}, {Y: 4, W: 2, H: 3}, {X: 3, W: 4, H: 1, Shape: 1}}, 26, []int{2, 1, 0}, 47},
		{large(), planOf(down(2), across(2), turn(2), across(2), shape(2), waste(), across(1), turn(1), down(3), waste()),
			[]api.Piece{{W: 2, H: 2, Shape: 2}, {X: 3, W: 2, H: 2, Shape: 2}, {Y: 3, W: 1, H: 4, Shape: 1}}, 16, []int{0, 1, 2}, 51},
		{large(), planOf(across(6), waste(), down(3), shape(0), shape(0)),
			[]api.Piece{{X: 7, W: 2, H: 3}, {X: 7, Y: 4, W: 2, H: 3}}, 20, []int{2, 0, 0}, 51},
	} {
		pieces, err := c.b.layout(c.plan)
		wantList(t, "Layout", pieces, err, c.pieces, api.OK)
		n, err := c.b.worth(c.plan)
		wantInt(t, "Worth", n, err, c.worth, api.OK)
		counts, err := c.b.counts(c.plan)
		wantList(t, "Counts", counts, err, c.counts, api.OK)
		n, err = c.b.waste(c.plan)
		wantInt(t, "Waste", n, err, c.waste, api.OK)
	}
}

// TestNoRemains: a part that the saw leaves nothing of has no plan.
func TestNoRemains(t *testing.T) {
	for _, c := range []struct {
		kerf, remains int
	}{{0, 3}, {1, 2}, {2, 1}, {3, 0}, {4, 0}, {8, 0}} {
		plan := planOf(across(2), waste())
		more := append(plan, waste())
		for _, b := range []board{newBoard(5, 1, c.kerf), newBoard(1, 5, c.kerf)} {
			if c.remains > 0 {
				wantRefused(t, b, plan, api.ErrForm)
				wantRead(t, b, more)
			} else {
				wantRead(t, b, plan)
				wantRefused(t, b, more, api.ErrForm)
			}
			plan, more = slices.Clone(plan), slices.Clone(more)
			plan[0], more[0] = down(2), down(2)
		}
	}
}

// TestMalformed is plans in which one thing is wrong.
func TestMalformed(t *testing.T) {
	b := newBoard(5, 3, 1, fixed(2, 3, 10), turning(3, 5, 4), fixed(3, 5, 4), turning(5, 3, 1), fixed(4, 3, 2))
	for _, plan := range [][]api.Cut{
		nil, {},
		{{Kind: api.CutWaste, At: 1}}, {{Kind: api.CutWaste, At: -1}}, {{Kind: api.CutWaste, At: math.MaxInt}}, {{Kind: api.CutWaste, At: math.MinInt}},
		{{Kind: -1}}, {{Kind: 5}}, {{Kind: math.MaxInt}}, {{Kind: math.MinInt}}, {{Kind: 5, At: 1}, waste(), waste()},
		{waste(), waste()}, {shape(3), waste()}, {turn(1), turn(1)}, // something left over
		{across(2)}, {across(2), waste()}, {across(2), shape(0)}, {down(1)}, {down(1), waste()}, // something missing
		{across(2), waste(), waste(), waste()}, {down(1), waste(), waste(), waste()}, {across(2), shape(0), shape(0), shape(0)},
		{shape(-1)}, {shape(5)}, {shape(math.MaxInt)}, {shape(math.MinInt)}, {turn(-1)}, {turn(5)}, {turn(math.MaxInt)}, {turn(math.MinInt)},
		{shape(0)}, {shape(1)}, {shape(2)}, {shape(4)}, {turn(0)}, {turn(2)}, {turn(3)}, {turn(4)}, // the wrong size, or not to be turned
		{across(0), waste(), waste()}, {across(0), waste()}, {across(5), waste()}, {across(5), waste(), waste()}, {across(6), waste()},
		{across(-1), waste(), waste()}, {across(math.MaxInt), waste()}, {across(math.MinInt), waste(), waste()}, {across(math.MinInt), waste()},
		{down(0), waste(), waste()}, {down(0), waste()}, {down(3), waste()}, {down(3), waste(), waste()}, {down(4), waste()},
		{down(-1), waste(), waste()}, {down(math.MaxInt), waste()}, {down(math.MinInt), waste(), waste()}, {down(math.MinInt), waste()},
		{across(2), across(2), waste(), waste()}, {across(2), down(3), waste(), waste()}, {across(2), waste(), across(2), waste()}, // not in that part
		{across(2), shape(0), shape(1)}, {across(2), shape(0), turn(1)}, {across(2), shape(0), {Kind: 7}}, {across(2), {Kind: -7}, shape(0)},
		{down(1), waste(), down(1), waste()},
	} {
		wantRefused(t, b, plan, api.ErrForm)
	}
	for _, plan := range [][]api.Cut{
		{waste()}, {shape(3)}, {turn(1)}, {across(2), shape(0), shape(0)}, {across(4), shape(4)}, {across(3), waste(), waste()}, {down(2), waste()},
		{across(2), shape(0), across(1), waste()}, {down(1), waste(), waste()}, {across(1), waste(), down(1), waste(), waste()},
	} {
		wantRead(t, b, plan)
	}
	for _, b := range []board{newBoard(1, 1, 0), newBoard(1, 2, 0), newBoard(2, 1, 0)} {
		for at := -1; at <= 2; at++ {
			wantReadOrRefused(t, b, planOf(across(at), waste(), waste()), 1 <= at && at < b.w)
			wantReadOrRefused(t, b, planOf(down(at), waste(), waste()), 1 <= at && at < b.h)
		}
	}
}

// key returns a text that is the plan's own.
func key(plan []api.Cut) string {
	var text strings.Builder
	for _, cut := range plan {
		text.WriteString(strconv.Itoa(cut.Kind) + " " + strconv.Itoa(cut.At) + ",")
	}
	return text.String()
}

// allCuts returns many cuts, some of which no plan has.
func allCuts() []api.Cut {
	var list []api.Cut
	for kind := -1; kind <= 5; kind++ {
		for at := -1; at <= 3; at++ {
			list = append(list, api.Cut{Kind: kind, At: at})
		}
	}
	return list
}

// A triedBoard is a small panel with the keys of all its plans.
type triedBoard struct {
	board
	plans map[string]bool
}

func triedBoards() []triedBoard {
	var list []triedBoard
	shapes := []api.Shape{turning(2, 1, 3), fixed(1, 1, 1), fixed(1, 2, 4)}
	for _, b := range []board{newBoard(1, 1, 0), newBoard(2, 1, 1, shapes...), newBoard(2, 2, 1, shapes...), newBoard(2, 2, 0, shapes...),
		newBoard(3, 2, 1, shapes...), newBoard(1, 4, 1, shapes...)} {
		plans := map[string]bool{}
		for _, plan := range b.everyPlan(b.w, b.h) {
			plans[key(plan)] = true
		}
		list = append(list, triedBoard{b, plans})
	}
	return list
}

// TestAllLists reads all short lists of cuts and demands that exactly the plans are read.
func TestAllLists(t *testing.T) {
	for _, b := range triedBoards() {
		lists := [][]api.Cut{nil}
		for len(lists[0]) < 3 {
			var longer [][]api.Cut
			for _, list := range lists {
				for _, cut := range allCuts() {
					longer = append(longer, append(slices.Clone(list), cut))
				}
			}
			lists = longer
			for _, list := range lists {
				wantReadOrRefused(t, b.board, list, b.plans[key(list)])
			}
		}
	}
}

func wantReadOrRefused(t *testing.T, b board, list []api.Cut, isPlan bool) {
	t.Helper()
	if isPlan {
		wantRead(t, b, list)
	} else {
		wantRefused(t, b, list, api.ErrForm)
	}
}

// TestAltered reads plans in which a cut was changed, added or left out.
func TestAltered(t *testing.T) {
	for _, b := range triedBoards() {
		plans := b.everyPlan(b.w, b.h)
		for number := 0; number < len(plans); number += 1 + len(plans)/100 {
			plan := plans[number]
			wantRead(t, b.board, plan)
			for i := range plan {
				shorter := slices.Delete(slices.Clone(plan), i, i+1)
				wantReadOrRefused(t, b.board, shorter, b.plans[key(shorter)])
				for _, cut := range allCuts() {
					changed := slices.Clone(plan)
					changed[i] = cut
					wantReadOrRefused(t, b.board, changed, b.plans[key(changed)])
					longer := slices.Insert(slices.Clone(plan), i, cut)
					wantReadOrRefused(t, b.board, longer, b.plans[key(longer)])
				}
			}
		}
	}
}

// parted tells whether two pieces are at least a kerf apart in one direction.
func parted(a, b api.Piece, kerf int) bool {
	return a.X+a.W+kerf <= b.X || b.X+b.W+kerf <= a.X || a.Y+a.H+kerf <= b.Y || b.Y+b.H+kerf <= a.Y
}

// wantApart is promises B3 and B4 for a plan.
func wantApart(t *testing.T, b board, plan []api.Cut) {
	t.Helper()
	pieces, err := b.layout(plan)
	if err != api.OK {
		t.Fatalf("Layout of %v with %v: error %d", b, plan, err)
	}
	area := 0
	for i, p := range pieces {
		if p.X < 0 || p.Y < 0 || p.W < 1 || p.H < 1 || p.X+p.W > b.w || p.Y+p.H > b.h {
			t.Fatalf("Layout of %v with %v: %v is not in the panel", b, plan, p)
		}
		area += p.W * p.H
		for _, q := range pieces[:i] {
			if !parted(p, q, b.kerf) {
				t.Fatalf("Layout of %v with %v: %v and %v are too near", b, plan, p, q)
			}
		}
	}
	n, err := b.waste(plan)
	wantInt(t, "Waste", n, err, b.w*b.h-area, api.OK)
}

// TestAnyPlans reads plans of panels of any size; Best's are not worth less (promise B1).
func TestAnyPlans(t *testing.T) {
	r := newRand()
	for range 100 {
		b := anyBoard(r)
		if r.Intn(2) == 0 {
			b.shapes = anyShapes(r, 16, 4, 100)
		}
		best, value, _ := b.best()
		wantRead(t, b, best)
		wantApart(t, b, best)
		for range 10 {
			plan := b.anyPlan(r, b.w, b.h)
			wantRead(t, b, plan)
			wantApart(t, b, plan)
			if n, _ := b.worth(plan); n > value {
				t.Fatalf("Best of %v is worth %d, but %v is worth %d", b, value, plan, n)
			}
			wantRefused(t, b, append(plan, waste()), api.ErrForm)
			wantRefused(t, b, plan[:r.Intn(len(plan))], api.ErrForm)
		}
	}
}

// TestEveryPlan reads all plans of some small panels.
func TestEveryPlan(t *testing.T) {
	r := newRand()
	for range 200 {
		b := smallBoard(r)
		plans := b.everyPlan(b.w, b.h)
		for number := 0; number < len(plans); number += 1 + len(plans)/200 {
			wantRead(t, b, plans[number])
			wantApart(t, b, plans[number])
		}
	}
}

// shaved returns a plan that cuts a strip off a panel again and again, until one square is left.
func shaved(w, h int) []api.Cut {
	var plan []api.Cut
	for w > 1 || h > 1 {
		if w >= h {
			w--
			plan = append(plan, across(w))
		} else {
			h--
			plan = append(plan, down(h))
		}
	}
	return append(plan, shape(0))
}

// TestDeep is plans whose cuts lie as deep in one another as can be.
func TestDeep(t *testing.T) {
	b := newBoard(64, 64, 1, fixed(1, 1, 1))
	plan := shaved(64, 64)
	wantInt(t, "the number of cuts", len(plan), api.OK, 127, api.OK)
	wantRead(t, b, plan)
	b.kerf = 0
	wantRefused(t, b, plan, api.ErrForm)
	wantRead(t, b, append(plan, slices.Repeat(planOf(waste()), 126)...))
}

// TestLong is lists that are much longer than every plan.
func TestLong(t *testing.T) {
	b := newBoard(64, 64, 0, fixed(1, 1, 1))
	for _, cut := range []api.Cut{waste(), shape(0), turn(0), across(1), across(63), down(1), down(63), {Kind: 9}} {
		wantRefused(t, b, slices.Repeat(planOf(cut), 1000000), api.ErrForm)
	}
	plan, _, _ := b.best()
	wantRefused(t, b, slices.Repeat(plan, 100), api.ErrForm)
}

// TestAnyLists reads lists of cuts at random: no list makes a function panic.
func TestAnyLists(t *testing.T) {
	r := newRand()
	for range 20000 {
		b := anyBoard(r)
		plan := make([]api.Cut, r.Intn(12))
		for i := range plan {
			plan[i] = anyCut(r)
		}
		_, err := b.layout(plan)
		if _, errWorth := b.worth(plan); err != api.OK && err != api.ErrForm || errWorth != err {
			t.Fatalf("%v with %v: errors %d and %d", b, plan, err, errWorth)
		}
	}
}

// anyCut returns a cut that may be malformed.
func anyCut(r *rand.Rand) api.Cut {
	at := []int{0, 0, r.Intn(16), r.Intn(64), -1, math.MaxInt, math.MinInt, r.Int()}
	return api.Cut{Kind: []int{0, 0, 0, 1, 2, 3, 4, r.Int(), -r.Int()}[r.Intn(9)], At: at[r.Intn(len(at))]}
}
