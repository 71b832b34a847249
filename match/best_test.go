package match_test

import (
	"math/rand"
	"slices"
	"testing"
	"time"

	"clavecin/api"
	"clavecin/match"
)

func TestBestExamples(t *testing.T) {
	for _, c := range []struct {
		table [][]int
		want  solution
	}{
		{[][]int{{4, 1}, {2, 0}}, solution{true, 3, []int{1, 0}}},
		{[][]int{{1, 1}, {1, 1}}, solution{true, 2, []int{0, 1}}},
		{[][]int{{5, -1}, {7, -1}}, solution{}},
		{[][]int{{-1, -1, 3}, {1, 2, -1}}, solution{true, 4, []int{2, 0}}},
		{[][]int{{0}}, solution{true, 0, []int{0}}},
		{[][]int{{-1}}, solution{}},
		{[][]int{{3, 2, 2}}, solution{true, 2, []int{1}}},
		{[][]int{{-1, -1, -1}}, solution{}},
		{[][]int{{0, 1}, {1, 2}}, solution{true, 2, []int{0, 1}}}, // both ways cost 2
		{[][]int{{2, 1}, {1, 0}}, solution{true, 2, []int{0, 1}}}, // both ways cost 2, though 1 is less than 2
		{[][]int{{1, 0, 1}, {-1, 0, 5}}, solution{true, 1, []int{0, 1}}},
		{[][]int{{5, 0, 0}, {0, 5, 0}, {0, 0, 5}}, solution{true, 0, []int{1, 2, 0}}}, // [2 0 1] costs 0, too
		{[][]int{{1, 2, 3}, {-1, -1, -1}}, solution{}},
		{[][]int{{1000000000, -1}, {-1, 1000000000}}, solution{true, 2000000000, []int{0, 1}}},
	} {
		if got := tryAll(c.table); got.found != c.want.found || got.cost != c.want.cost || !slices.Equal(got.to, c.want.to) {
			t.Fatalf("%v: the test is wrong", c.table)
		}
		wantBest(t, c.table, c.want)
	}
}

// tryAny returns a random assignment, or nil.
func tryAny(r *rand.Rand, table [][]int) []int {
	for range 20 {
		to := r.Perm(len(table[0]))[:len(table)]
		if _, err := match.Total(table, to); err == api.OK {
			return to
		}
	}
	return nil
}

// TestBestOfAll tries all assignments of small tables, with many ties.
func TestBestOfAll(t *testing.T) {
	r := newRand()
	none := 0
	for range 6000 {
		table := smallTable(r)
		want := tryAll(table)
		wantBest(t, table, want)
		if !want.found {
			none++
		}
	}
	if none < 600 || none > 3000 {
		t.Errorf("%d tables of 6000 have no assignment: this tests too little", none)
	}
}

func TestBestBySets(t *testing.T) {
	r := newRand()
	for i := range 250 {
		columns := between(r, 8, 11)
		table := anyTable(r, between(r, 4, columns), columns, []int{1, 2, 5, 100}[i%4], 10*(i%7))
		wantBest(t, table, bySets(table))
	}
}

// TestBestByPaths compares large tables with a second method, and tests that no row can have a lesser column at no greater cost.
func TestBestByPaths(t *testing.T) {
	r := newRand()
	for i := range 24 {
		columns := between(r, 16, 24)
		table := anyTable(r, between(r, 12, columns-i%5), columns, []int{0, 1, 3, 20}[i%4], []int{0, 30, 60}[i%3])
		count, cost := byPaths(table)
		m, err := match.Best(table)
		if count < len(table) {
			wantNothing(t, "Best", m, err, api.ErrNone)
			continue
		}
		wantInt(t, "Best", m.Cost, err, cost, api.OK)
		wantProof(t, table, m)
		wantLeast(t, table, m)
	}
}

// wantLeast tests promise Q2: with the columns of the rows before, each lesser column makes the rest dearer.
func wantLeast(t *testing.T, table [][]int, m api.Matching) {
	t.Helper()
	forced := copyTable(table)
	for i, column := range m.To {
		row := forced[i]
		for j := range column {
			if row[j] == no {
				continue
			}
			forced[i] = slices.Repeat([]int{no}, len(row))
			forced[i][j] = row[j]
			if count, cost := byPaths(forced); count == len(table) && cost <= m.Cost {
				t.Fatalf("Best(%v): %v, but row %d can have column %d at the cost %d", table, m.To, i, j, cost)
			}
		}
		forced[i] = slices.Repeat([]int{no}, len(row))
		forced[i][column] = row[column]
	}
}

// greatTables returns tables of 64 columns of many kinds.
func greatTables(r *rand.Rand) [][][]int {
	product, steps, both := filled(64, 64, 0), filled(64, 64, 0), filled(40, 64, 0)
	band, blocks := filled(64, 64, no), filled(64, 64, no)
	for i := range 64 {
		for j := range 64 {
			product[i][j] = (i + 1) * (j + 1) * 200000
			steps[i][j] = max(0, i-j) * 1000
			if i < 40 {
				both[i][j] = (i + j) % 3
			}
			if j-i <= 1 && i-j <= 1 {
				band[i][j] = (i*7 + j*5) % 4
			}
			if i/8 == j/8 {
				blocks[i][j] = 3
			}
		}
	}
	return [][][]int{product, steps, both, band, blocks, filled(64, 64, 0), filled(64, 64, 1000000000), filled(64, 64, no), filled(1, 64, 9),
		anyTable(r, 64, 64, 1000000000, 0), anyTable(r, 64, 64, 3, 0), anyTable(r, 64, 64, 1000000000, 80), anyTable(r, 50, 64, 2, 85), anyTable(r, 64, 64, 5, 97)}
}

// TestBestGreatest: tables of 64 columns are matched quickly.
func TestBestGreatest(t *testing.T) {
	for i, table := range greatTables(newRand()) {
		start := time.Now()
		m, err := match.Best(table)
		rows, errHall := match.Hall(table)
		most, errMost := match.Most(table)
		if took := time.Since(start); took > time.Second {
			t.Errorf("table %d took %v", i, took)
		}
		count, cost := byPaths(table)
		wantInt(t, "Most", most, errMost, count, api.OK)
		if count < len(table) {
			wantNothing(t, "Best", m, err, api.ErrNone)
			wantHall(t, table, rows, errHall)
			continue
		}
		wantInt(t, "Best", m.Cost, err, cost, api.OK)
		wantProof(t, table, m)
		wantList(t, "Hall", rows, errHall, nil, api.ErrNone)
	}
}

// TestGreatTies is promise Q2 for the greatest tables with many assignments of the least cost.
func TestGreatTies(t *testing.T) {
	diagonal := make([]int, 64)
	for i := range diagonal {
		diagonal[i] = i
	}
	wantBest(t, filled(64, 64, 5), solution{true, 320, diagonal})
	wantBest(t, filled(30, 64, 5), solution{true, 150, diagonal[:30]})
	around := filled(64, 64, 1) // the first row may not have column 0, and the last one nothing else
	around[0][0] = 2
	around[63] = slices.Repeat([]int{2}, 64)
	around[63][0] = 1
	wantBest(t, around, solution{true, 64, append(slices.Clone(diagonal[1:]), 0)})
	r := newRand()
	for _, table := range [][][]int{anyTable(r, 40, 44, 1, 80), anyTable(r, 36, 36, 1, 60)} {
		m, err := match.Best(table)
		if err != api.OK {
			t.Fatalf("Best: error %d", err)
		}
		wantLeast(t, table, m)
	}
}

func TestWithout(t *testing.T) {
	for _, c := range []struct {
		table [][]int
		row   int
		want  int
		err   api.Errno
	}{
		{[][]int{{4, 1}, {2, 0}}, 0, 0, api.OK},
		{[][]int{{4, 1}, {2, 0}}, 1, 1, api.OK},
		{[][]int{{4, 1}, {2, 0}}, 2, 0, api.ErrArg},
		{[][]int{{4, 1}, {2, 0}}, -1, 0, api.ErrArg},
		{[][]int{{5, -1}, {7, -1}}, 0, 7, api.OK},
		{[][]int{{5, -1}, {7, -1}}, 1, 5, api.OK},
		{[][]int{{5, 3}, {-1, -1}}, 0, 0, api.ErrNone},
		{[][]int{{5, 3}, {-1, -1}}, 1, 3, api.OK},
		{[][]int{{5}}, 0, 0, api.OK},
		{[][]int{{-1}}, 0, 0, api.OK},
		{[][]int{{-1, 3}}, 0, 0, api.OK},
		{[][]int{{-1, 3}}, 1, 0, api.ErrArg},
		{[][]int{{1, -1, -1}, {2, -1, -1}, {3, -1, -1}}, 1, 0, api.ErrNone},
		{filled(64, 64, 1000000000), 63, 63000000000, api.OK},
		{filled(64, 64, 1000000000), 64, 0, api.ErrArg},
	} {
		n, err := match.Without(c.table, c.row)
		wantInt(t, "Without", n, err, c.want, c.err)
	}
}

// TestWithoutOfAll leaves out each row of small tables; promise Q6.
func TestWithoutOfAll(t *testing.T) {
	r := newRand()
	for range 2000 {
		table := smallTable(r)
		best, errBest := match.Best(table)
		for row := range table {
			others := slices.Delete(slices.Clone(table), row, row+1)
			want := tryAll(others)
			wantErr := api.OK
			if !want.found {
				wantErr = api.ErrNone
			}
			n, err := match.Without(table, row)
			wantInt(t, "Without", n, err, want.cost, wantErr)
			if errBest == api.OK && (err != api.OK || n > best.Cost) {
				t.Errorf("Without(%v, %d): %d, error %d, but Best costs %d", table, row, n, err, best.Cost)
			}
		}
	}
}

// TestMoreIsNotDearer is promise Q5.
func TestMoreIsNotDearer(t *testing.T) {
	r := newRand()
	for range 1500 {
		columns := between(r, 2, 20)
		table := anyTable(r, between(r, 1, columns), columns, 50, between(r, 0, 60))
		before, errBefore := match.Best(table)
		wider := copyTable(table)
		for i := range wider {
			wider[i] = append(wider[i], between(r, -1, 50))
		}
		freer := copyTable(table)
		for i := range freer {
			for j := range freer[i] {
				if freer[i][j] == no && r.Intn(3) == 0 {
					freer[i][j] = r.Intn(50)
				}
			}
		}
		for _, more := range [][][]int{wider, freer} {
			after, err := match.Best(more)
			if errBefore == api.OK && (err != api.OK || after.Cost > before.Cost) {
				t.Fatalf("Best(%v): %d, error %d; Best(%v): %d", more, after.Cost, err, table, before.Cost)
			}
		}
	}
}
