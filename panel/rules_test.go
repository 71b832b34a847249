package panel_test

import (
	"slices"
	"testing"

	"clavecin/api"
	"clavecin/panel"
)

// TestArgumentsStay is rules R5 and R6: arguments stay as they are, and results are new memory.
func TestArgumentsStay(t *testing.T) {
	shapesBehind := []api.Shape{turning(3, 2, 10), fixed(1, 1, 1), fixed(77, 77, 77)}
	planBehind := planOf(across(2), turn(0), turn(0), shape(77))
	wantsBehind := []int{2, 1, 77}
	wasShapes, wasPlan, wasWants := slices.Clone(shapesBehind), slices.Clone(planBehind), slices.Clone(wantsBehind)
	b, plan, wants := newBoard(5, 3, 1, shapesBehind[:2]...), planBehind[:3], wantsBehind[:2]
	for range 2 {
		wantInt(t, "Check", 0, panel.Check(b.w, b.h, b.kerf, b.shapes), 0, api.OK)
		best, value, err := b.best()
		wantList(t, "Best", best, err, plan, api.OK)
		wantInt(t, "Best", value, err, 20, api.OK)
		table, err := b.table()
		if want := [][]int{{1, 1, 2}, {1, 1, 10}, {2, 10, 10}, {2, 10, 12}, {3, 11, 20}}; !sameTable(table, want) || err != api.OK {
			t.Errorf("Table: %v, error %d, want %v", table, err, want)
		}
		pieces, err := b.layout(plan)
		wantList(t, "Layout", pieces, err, []api.Piece{{W: 2, H: 3}, {X: 3, W: 2, H: 3}}, api.OK)
		counts, err := b.counts(plan)
		wantList(t, "Counts", counts, err, []int{2, 0}, api.OK)
		n, err := b.worth(plan)
		wantInt(t, "Worth", n, err, 20, api.OK)
		n, err = b.waste(plan)
		wantInt(t, "Waste", n, err, 3, api.OK)
		n, err = b.ceiling()
		wantInt(t, "Ceiling", n, err, 25, api.OK)
		n, err = b.sheets(wants...)
		wantInt(t, "Sheets", n, err, 1, api.OK)
		wantRefused(t, b, planBehind, api.ErrForm)
		clear(best[:cap(best)]) // must not matter to the second round
		clear(pieces[:cap(pieces)])
		clear(counts[:cap(counts)])
		for _, row := range table {
			clear(row[:cap(row)])
		}
		if !slices.Equal(shapesBehind, wasShapes) || !slices.Equal(planBehind, wasPlan) || !slices.Equal(wantsBehind, wasWants) {
			t.Fatal("an argument, or memory behind it, was changed")
		}
	}
}

// TestRowsAreNotShared is rule R5 for the rows of a table.
func TestRowsAreNotShared(t *testing.T) {
	table, err := newBoard(8, 8, 1, turning(2, 3, 10), fixed(1, 1, 1)).table()
	was := copyTable(table)
	for i := range table {
		for range 100 {
			table[i] = append(table[i], -1)
		}
		table[i] = table[i][:8]
	}
	if !sameTable(table, was) || err != api.OK {
		t.Errorf("rows of a table share memory: %v, error %d, want %v", table, err, was)
	}
	for i := range table {
		clear(table[i][:cap(table[i])])
		if i+1 < len(table) && !slices.Equal(table[i+1], was[i+1]) {
			t.Errorf("row %d shares memory with row %d", i+1, i)
		}
	}
}

// TestNilAndEmpty is rule R4.
func TestNilAndEmpty(t *testing.T) {
	for _, shapes := range [][]api.Shape{nil, {}} {
		b := newBoard(2, 2, 0, shapes...)
		wantInt(t, "Check", 0, panel.Check(2, 2, 0, shapes), 0, api.OK)
		wantBest(t, b, planOf(waste()), 0)
		wantTable(t, b, [][]int{{0, 0}, {0, 0}})
		wantRead(t, b, planOf(waste()))
		for _, wants := range [][]int{nil, {}} {
			n, err := b.sheets(wants...)
			wantInt(t, "Sheets", n, err, 0, api.OK)
		}
		n, err := b.ceiling()
		wantInt(t, "Ceiling", n, err, 0, api.OK)
		for _, plan := range [][]api.Cut{nil, {}, {shape(0)}, {turn(0)}} {
			wantRefused(t, b, plan, api.ErrForm)
		}
	}
}

// TestAgain is rule R6: the same calls have the same results.
func TestAgain(t *testing.T) {
	r := newRand()
	for range 30 {
		b := anyBoard(r)
		plan, value, err := b.best()
		table, _ := b.table()
		b.layout(planOf(across(1), shape(0), shape(0)))
		b.shapes = slices.Clone(b.shapes)
		wantBest(t, b, plan, value)
		wantTable(t, b, table)
		wantInt(t, "Best", value, err, table[b.w-1][b.h-1], api.OK)
	}
}
