package match_test

import (
	"math/bits"
	"slices"
	"testing"

	"clavecin/api"
	"clavecin/match"
)

func TestMost(t *testing.T) {
	for _, c := range []struct {
		table [][]int
		want  int
	}{
		{[][]int{{5, -1}, {7, -1}}, 1},
		{[][]int{{4, 1}, {2, 0}}, 2},
		{[][]int{{-1}}, 0},
		{[][]int{{0}}, 1},
		{[][]int{{1, 1, 1}, {-1, -1, -1}, {1, -1, -1}}, 2},
		{[][]int{{0, 0}, {0, -1}}, 2},                          // the first row has to move on
		{[][]int{{1, 1, -1}, {1, -1, 1}, {1, -1, -1}}, 3},      // both rows have to move on
		{[][]int{{1, -1, -1}, {1, -1, -1}, {-1, 1, 1}}, 2},     // the row behind the one that has none has one
		{[][]int{{-1, -1, -1}, {-1, -1, -1}, {-1, -1, -1}}, 0}, // nothing at all
		{filled(64, 64, 0), 64},
		{filled(3, 64, 0), 3},
	} {
		n, err := match.Most(c.table)
		wantInt(t, "Most", n, err, c.want, api.OK)
	}
}

func TestHallExamples(t *testing.T) {
	for _, c := range []struct {
		table [][]int
		want  []int // the only smallest sets are these
	}{
		{[][]int{{5, -1}, {7, -1}}, []int{0, 1}},
		{[][]int{{-1}}, []int{0}},
		{[][]int{{1, 1}, {-1, -1}}, []int{1}},
		{[][]int{{1, 1, 1}, {1, -1, -1}, {1, -1, -1}}, []int{1, 2}},
		{[][]int{{1, 1, -1}, {1, 1, -1}, {1, 1, -1}}, []int{0, 1, 2}},
		{[][]int{{-1, 2, 2, -1}, {2, 2, 2, 2}, {-1, -1, 2, -1}, {-1, 2, -1, -1}}, []int{0, 2, 3}},
	} {
		rows, err := match.Hall(c.table)
		wantList(t, "Hall", rows, err, c.want, api.OK)
		wantHall(t, c.table, rows, err)
	}
	for _, table := range [][][]int{{{4, 1}, {2, 0}}, {{0}}, {{-1, -1, 3}, {1, 2, -1}}, filled(64, 64, 7)} {
		rows, err := match.Hall(table)
		wantList(t, "Hall", rows, err, nil, api.ErrNone)
	}
}

// wantHall tests that rows are a Hall set that lacks one column, and that there is no smaller one within it.
func wantHall(t *testing.T, table [][]int, rows []int, err api.Errno) {
	t.Helper()
	if err != api.OK || len(rows) == 0 || rows[0] < 0 || rows[len(rows)-1] >= len(table) {
		t.Fatalf("Hall(%v): %v, error %d", table, rows, err)
	}
	for i := 1; i < len(rows); i++ {
		if rows[i] <= rows[i-1] {
			t.Fatalf("Hall(%v): %v does not rise", table, rows)
		}
	}
	if n := columnsOf(table, rows); n != len(rows)-1 {
		t.Fatalf("Hall(%v): %v has %d columns", table, rows, n)
	}
	for i := range rows { // by Hall's theorem there is no smaller one within it if all rows but any one have columns
		var others [][]int
		for k, row := range rows {
			if k != i {
				others = append(others, table[row])
			}
		}
		if len(others) == 0 {
			continue
		}
		if count, _ := byPaths(others); count != len(others) {
			t.Fatalf("Hall(%v): %v has a Hall set without row %d", table, rows, rows[i])
		}
	}
}

// TestHallOfAll goes over all sets of rows of small tables: promises Q3 and Q4.
func TestHallOfAll(t *testing.T) {
	r := newRand()
	for range 4000 {
		table := smallTable(r)
		var halls []int // the Hall sets
		cover := len(table)
		for set := range 1 << len(table) {
			columns := columnsOf(table, rowsOf(set))
			if columns < bits.OnesCount(uint(set)) {
				halls = append(halls, set)
			}
			cover = min(cover, columns+len(table)-bits.OnesCount(uint(set)))
		}
		most, err := match.Most(table)
		wantInt(t, "Most", most, err, cover, api.OK)
		if (most == len(table)) != tryAll(table).found || (len(halls) == 0) != tryAll(table).found {
			t.Fatalf("%v: Most: %d, Hall sets: %b", table, most, halls)
		}
		rows, err := match.Hall(table)
		if len(halls) == 0 {
			wantList(t, "Hall", rows, err, nil, api.ErrNone)
			continue
		}
		wantHall(t, table, rows, err)
		own := 0
		for _, row := range rows {
			own |= 1 << row
		}
		for _, set := range halls {
			if set&own == set && set != own {
				t.Fatalf("Hall(%v): %v, but there is %v", table, rows, rowsOf(set))
			}
		}
		if !slices.Contains(halls, own) {
			t.Fatalf("Hall(%v): %v is none", table, rows)
		}
	}
}

func TestHallOfLargeTables(t *testing.T) {
	r := newRand()
	none := 0
	for i := range 300 {
		columns := between(r, 10, 64)
		table := anyTable(r, between(r, columns*3/4, columns), columns, 9, 98-i%20)
		if i%3 == 0 { // many rows that share too few columns
			few := between(r, 2, len(table)/2)
			for row := range few + 1 {
				for j := few; j < columns; j++ {
					table[row][j] = no
				}
				for j := range few {
					table[row][j] = between(r, 0, 9)
				}
			}
			r.Shuffle(len(table), func(i, k int) { table[i], table[k] = table[k], table[i] })
		}
		count, _ := byPaths(table)
		most, err := match.Most(table)
		wantInt(t, "Most", most, err, count, api.OK)
		rows, err := match.Hall(table)
		if count == len(table) {
			wantList(t, "Hall", rows, err, nil, api.ErrNone)
			none++
			continue
		}
		wantHall(t, table, rows, err)
	}
	if none < 10 || none > 250 {
		t.Errorf("%d tables of 300 have no Hall set: this tests too little", none)
	}
}
