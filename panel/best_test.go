package panel_test

import (
	"slices"
	"testing"

	"clavecin/api"
)

func TestBest(t *testing.T) {
	for _, c := range []struct {
		b     board
		plan  []api.Cut
		value int
	}{
		// The document's examples.
		{twoPieces(), planOf(across(2), shape(0), shape(0)), 20},
		{oneTurned(), planOf(turn(0)), 7},
		{newBoard(4, 4, 0), planOf(waste()), 0},
		{noRest(), planOf(across(1), shape(0)), 5},
		// What the saw leaves.
		{newBoard(1, 2, 1, fixed(1, 1, 5)), planOf(down(1), shape(0)), 5},
		{newBoard(3, 1, 1, fixed(1, 1, 5)), planOf(across(1), shape(0), shape(0)), 10},
		{newBoard(3, 1, 8, fixed(1, 1, 5)), planOf(across(1), shape(0)), 5},
		{newBoard(4, 1, 2, fixed(1, 1, 5)), planOf(across(1), shape(0), shape(0)), 10},
		{newBoard(3, 3, 5, fixed(2, 2, 5)), planOf(across(2), down(2), shape(0)), 5},
		{newBoard(10, 1, 8, fixed(1, 1, 5)), planOf(across(1), shape(0), shape(0)), 10},
		{newBoard(10, 1, 0, fixed(10, 1, 5)), planOf(shape(0)), 5},
		{newBoard(11, 1, 0, fixed(10, 1, 5)), planOf(across(1), waste(), shape(0)), 5},
		{newBoard(11, 1, 1, fixed(10, 1, 5)), planOf(across(10), shape(0)), 5},
		{newBoard(12, 1, 1, fixed(10, 1, 5)), planOf(across(1), waste(), shape(0)), 5},
		// What does not fit, or only if it is turned.
		{newBoard(3, 2, 0, fixed(2, 3, 7)), planOf(waste()), 0},
		{newBoard(3, 2, 0, fixed(4, 1, 7), turning(4, 1, 7), turning(1, 4, 7)), planOf(waste()), 0},
		{newBoard(2, 3, 0, turning(2, 3, 7)), planOf(shape(0)), 7},
		{newBoard(64, 64, 8, fixed(64, 64, 1000000)), planOf(shape(0)), 1000000},
		{newBoard(1, 1, 0, fixed(1, 1, 1)), planOf(shape(0)), 1},
	} {
		wantBest(t, c.b, c.plan, c.value)
	}
}

// TestTies: the first of what reaches the greatest value is done.
func TestTies(t *testing.T) {
	for _, c := range []struct {
		b     board
		plan  []api.Cut
		value int
	}{
		// Waste comes first, in parts too.
		{newBoard(2, 2, 0, fixed(2, 2, 0), fixed(1, 1, 0)), planOf(waste()), 0},
		{newBoard(2, 1, 0, fixed(1, 1, 0), fixed(2, 1, 0)), planOf(waste()), 0},
		{newBoard(3, 1, 0, fixed(1, 1, 0), fixed(2, 1, 4)), planOf(across(1), waste(), shape(1)), 4},
		// Shapes come by number.
		{newBoard(2, 2, 0, fixed(2, 2, 3), fixed(2, 2, 3)), planOf(shape(0)), 3},
		{newBoard(2, 2, 0, fixed(2, 2, 2), fixed(2, 2, 3), fixed(2, 2, 3)), planOf(shape(1)), 3},
		{newBoard(2, 2, 0, fixed(2, 2, 4), fixed(2, 2, 3)), planOf(shape(0)), 4},
		{newBoard(3, 2, 0, fixed(3, 2, 7), turning(2, 3, 7)), planOf(shape(0)), 7},
		{newBoard(3, 2, 0, turning(2, 3, 7), fixed(3, 2, 7)), planOf(turn(0)), 7},
		{newBoard(3, 2, 0, fixed(2, 3, 7), turning(3, 2, 7), turning(2, 3, 7)), planOf(shape(1)), 7},
		{newBoard(3, 2, 0, turning(2, 3, 6), fixed(3, 2, 7)), planOf(shape(1)), 7},
		// A square is not turned.
		{newBoard(2, 2, 0, turning(2, 2, 3)), planOf(shape(0)), 3},
		// A shape comes before a cut.
		{newBoard(2, 1, 0, fixed(1, 1, 2), fixed(2, 1, 4)), planOf(shape(1)), 4},
		{newBoard(2, 1, 0, fixed(1, 1, 2), turning(1, 2, 4)), planOf(turn(1)), 4},
		{newBoard(2, 1, 0, fixed(1, 1, 2), fixed(2, 1, 3)), planOf(across(1), shape(0), shape(0)), 4},
		// A cut across comes before one down.
		{newBoard(2, 2, 0, fixed(1, 1, 1)), planOf(across(1), down(1), shape(0), shape(0), down(1), shape(0), shape(0)), 4},
		{newBoard(2, 2, 0, fixed(2, 1, 3), fixed(1, 2, 3)), planOf(across(1), shape(1), shape(1)), 6},
		{newBoard(2, 2, 0, fixed(2, 1, 3), fixed(1, 2, 2)), planOf(down(1), shape(0), shape(0)), 6},
		{newBoard(2, 2, 1, fixed(1, 1, 1)), planOf(across(1), down(1), shape(0)), 1},
		// Cuts come by what they are at.
		{newBoard(3, 1, 0, fixed(1, 1, 1), fixed(2, 1, 2)), planOf(across(1), shape(0), shape(1)), 3},
		{newBoard(1, 3, 0, fixed(1, 1, 1), fixed(1, 2, 2)), planOf(down(1), shape(0), shape(1)), 3},
		{newBoard(5, 1, 1, fixed(1, 1, 1)), planOf(across(1), shape(0), across(1), shape(0), shape(0)), 3},
		{newBoard(1, 5, 1, fixed(1, 1, 1)), planOf(down(1), shape(0), down(1), shape(0), shape(0)), 3},
		{newBoard(4, 1, 1, fixed(2, 1, 1)), planOf(across(1), waste(), shape(0)), 1},
		{newBoard(1, 4, 0, fixed(1, 2, 1)), planOf(down(2), shape(0), shape(0)), 2},
	} {
		wantBest(t, c.b, c.plan, c.value)
	}
}

// firstOfAll returns the first of the plans that are worth most, by trying all plans, and its value.
func firstOfAll(b board) ([]api.Cut, int) {
	var best []api.Cut
	most := -1
	for _, plan := range b.everyPlan(b.w, b.h) {
		if v := b.value(plan); v > most {
			best, most = plan, v
		}
	}
	return best, most
}

// TestAllPlans compares Best with all plans of small panels: promise B1 and the rule for ties.
func TestAllPlans(t *testing.T) {
	r := newRand()
	for range 1500 {
		b := smallBoard(r)
		plan, value := firstOfAll(b)
		wantBest(t, b, plan, value)
	}
	for _, kerf := range []int{0, 1, 2, 8} {
		for _, shapes := range [][]api.Shape{{turning(2, 1, 3), fixed(1, 1, 1)}, {fixed(1, 2, 3), fixed(2, 2, 5)}, {turning(1, 3, 4), fixed(2, 2, 6)}} {
			b := newBoard(3, 3, kerf, shapes...)
			plan, value := firstOfAll(b)
			wantBest(t, b, plan, value)
		}
	}
}

func TestTable(t *testing.T) {
	wantTable(t, noRest(), [][]int{{5}, {5}})
	wantTable(t, newBoard(1, 1, 0), [][]int{{0}})
	wantTable(t, newBoard(2, 3, 0), [][]int{{0, 0, 0}, {0, 0, 0}})
	wantTable(t, twoPieces(), [][]int{{0, 0, 0}, {0, 0, 10}, {0, 0, 10}, {0, 0, 10}, {0, 0, 20}})
	wantTable(t, oneTurned(), [][]int{{0, 0}, {0, 0}, {0, 7}}) // 2 times 3 is beyond the panel
	wantTable(t, newBoard(3, 3, 0, turning(2, 3, 7)), [][]int{{0, 0, 0}, {0, 0, 7}, {0, 7, 7}})
	wantTable(t, newBoard(2, 4, 2, fixed(1, 1, 5)), [][]int{{5, 5, 5, 10}, {5, 5, 5, 10}})
	wantTable(t, newBoard(1, 4, 0, fixed(1, 2, 3), fixed(1, 3, 8)), [][]int{{0, 3, 8, 8}})
}

// TestSmallTables: each element of Table is what Best reaches in a panel of that size.
func TestSmallTables(t *testing.T) {
	r := newRand()
	for range 300 {
		b := smallBoard(r)
		want := make([][]int, b.w)
		for i := range want {
			for j := range b.h {
				_, value := firstOfAll(newBoard(i+1, j+1, b.kerf, b.shapes...))
				want[i] = append(want[i], value)
			}
		}
		wantTable(t, b, want)
	}
}

// wayBetter returns a sentence of promise B2 that a table breaks, or "".
func wayBetter(b board, table [][]int) string {
	value := func(w, h int) int {
		if w < 1 || h < 1 {
			return 0
		}
		return table[w-1][h-1]
	}
	for w := 1; w <= b.w; w++ {
		for h := 1; h <= b.h; h++ {
			if value(w, h) < value(w-1, h) || value(w, h) < value(w, h-1) {
				return "a smaller rectangle is worth more"
			}
			for _, s := range b.shapes {
				if value(w, h) < s.Value && (s.W == w && s.H == h || s.Turn && s.W == h && s.H == w) {
					return "a shape is worth more"
				}
			}
			for x := 1; x < w; x++ {
				if value(w, h) < value(x, h)+value(w-x-b.kerf, h) {
					return "a cut across is worth more"
				}
			}
			for y := 1; y < h; y++ {
				if value(w, h) < value(w, y)+value(w, h-y-b.kerf) {
					return "a cut down is worth more"
				}
			}
		}
	}
	return ""
}

// TestLargeTables is promises B1 and B2 for panels of any size: no table that keeps B2 is less than the greatest values, and plans that reach it show that it is not more.
func TestLargeTables(t *testing.T) {
	r := newRand()
	for range 40 {
		b := anyBoard(r)
		table, err := b.table()
		if err != api.OK || len(table) != b.w || slices.ContainsFunc(table, func(row []int) bool { return len(row) != b.h }) {
			t.Fatalf("Table of %v: %v, error %d", b, table, err)
		}
		if broken := wayBetter(b, table); broken != "" {
			t.Fatalf("Table of %v: %s", b, broken)
		}
		wantReached(t, b, table)
		for range 20 {
			wantReached(t, newBoard(between(r, 1, b.w), between(r, 1, b.h), b.kerf, b.shapes...), table)
		}
	}
}

// wantReached tells whether Best is a plan that reaches what a table says, in the panel and in every rectangle of the plan,
// each time with the first cut that does.
func wantReached(t *testing.T, b board, table [][]int) {
	t.Helper()
	plan, value, err := b.best()
	wantInt(t, "Best", value, err, table[b.w-1][b.h-1], api.OK)
	n, err := b.worth(plan)
	wantInt(t, "Worth", n, err, value, api.OK)
	for _, n := range b.nodes(plan) {
		if first := firstCut(b, table, n.w, n.h); n.cut != first {
			t.Fatalf("Best of %v: %v for %d times %d, want %v", b, n.cut, n.w, n.h, first)
		}
	}
}

// firstCut returns the first cut that reaches what a table says of a rectangle, by the document's list.
func firstCut(b board, table [][]int, w, h int) api.Cut {
	value := func(w, h int) int {
		if w < 1 || h < 1 {
			return 0
		}
		return table[w-1][h-1]
	}
	most := value(w, h)
	if most == 0 {
		return waste()
	}
	for i, s := range b.shapes {
		if s.Value == most && s.W == w && s.H == h {
			return shape(i)
		}
		if s.Value == most && s.Turn && s.W == h && s.H == w {
			return turn(i)
		}
	}
	for x := 1; x < w; x++ {
		if value(x, h)+value(w-x-b.kerf, h) == most {
			return across(x)
		}
	}
	for y := 1; y < h; y++ {
		if value(w, y)+value(w, h-y-b.kerf) == most {
			return down(y)
		}
	}
	return api.Cut{Kind: -1}
}

// TestTurnedPanel is promise B6.
func TestTurnedPanel(t *testing.T) {
	r := newRand()
	for range 60 {
		b := anyBoard(r)
		for i := range b.shapes {
			b.shapes[i].Turn = true
		}
		_, value, err := b.best()
		_, turned, errTurned := newBoard(b.h, b.w, b.kerf, b.shapes...).best()
		wantInt(t, "Best of a turned panel", turned, errTurned, value, err)
	}
}

// TestGreatest is Best at the limits.
func TestGreatest(t *testing.T) {
	b := newBoard(64, 64, 0, slices.Repeat([]api.Shape{turning(1, 1, 1000000)}, 16)...)
	plan, value, err := b.best()
	wantInt(t, "Best", value, err, 4096000000, api.OK)
	wantInt(t, "the number of cuts of Best", len(plan), err, 2*4096-1, api.OK)
	n, err := b.ceiling()
	wantInt(t, "Ceiling", n, err, 4096000000, api.OK)
	wantRead(t, b, plan)
	b.kerf = 8
	plan, value, err = b.best()
	wantInt(t, "Best with the widest saw", value, err, 64000000, api.OK)
	wantRead(t, b, plan)
}
