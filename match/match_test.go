package match_test

import (
	"math"
	"testing"

	"clavecin/api"
	"clavecin/match"
)

func TestCheck(t *testing.T) {
	for i, table := range [][][]int{
		{{0}}, {{-1}}, {{1000000000}}, {{4, 1}, {2, 0}}, {{1, 2, 3}}, {{5, -1}, {7, -1}}, filled(1, 64, 3), filled(64, 64, 1000000000), filled(64, 64, no), filled(63, 64, 0),
	} {
		if err := match.Check(table); err != api.OK {
			t.Errorf("Check of table %d: error %d", i, err)
		}
	}
}

// TestFaulty gives each function the tables that are not valid; other errors would apply as well, but this one comes first.
func TestFaulty(t *testing.T) {
	for _, table := range faulty() {
		wantInt(t, "Check", 0, match.Check(table), 0, api.ErrArg)
		m, err := match.Best(table)
		wantNothing(t, "Best", m, err, api.ErrArg)
		for _, to := range [][]int{nil, {0}, {0, 1, 2}} {
			n, err := match.Total(table, to)
			wantInt(t, "Total", n, err, 0, api.ErrArg)
			good, err := match.Proves(table, api.Matching{To: to})
			wantBool(t, "Proves", good, err, false, api.ErrArg)
		}
		n, err := match.Most(table)
		wantInt(t, "Most", n, err, 0, api.ErrArg)
		rows, err := match.Hall(table)
		wantList(t, "Hall", rows, err, nil, api.ErrArg)
		for _, row := range []int{-1, 0, 2} {
			n, err = match.Without(table, row)
			wantInt(t, "Without", n, err, 0, api.ErrArg)
		}
	}
}

// unfit returns lists that are not assignments of a table of two rows and three columns, in which row 1 may not have column 2.
func unfit() [][]int {
	return [][]int{nil, {}, {0}, {0, 1, 2}, {0, 0}, {1, 1}, {2, 2}, {0, 2}, {1, 2}, {-1, 0}, {0, -1}, {3, 0}, {0, 3}, {math.MinInt, 0}, {0, math.MaxInt}}
}

func TestTotal(t *testing.T) {
	table := [][]int{{4, 1, 1000000000}, {2, 0, -1}}
	for _, c := range []struct {
		to   []int
		want int
	}{{[]int{0, 1}, 4}, {[]int{1, 0}, 3}, {[]int{2, 0}, 1000000002}, {[]int{2, 1}, 1000000000}} {
		n, err := match.Total(table, c.to)
		wantInt(t, "Total", n, err, c.want, api.OK)
	}
	for _, to := range unfit() {
		n, err := match.Total(table, to)
		wantInt(t, "Total", n, err, 0, api.ErrForm)
	}
	diagonal := make([]int, 64)
	for i := range diagonal {
		diagonal[i] = i
	}
	n, err := match.Total(filled(64, 64, 1000000000), diagonal)
	wantInt(t, "Total of the dearest table", n, err, 64000000000, api.OK)
}

func TestProves(t *testing.T) {
	table := [][]int{{4, 1, 9}, {2, 0, -1}}
	to := []int{1, 0}
	for _, c := range []struct {
		m    api.Matching
		want bool
	}{
		{api.Matching{To: to, Rows: []int{3, 2}, Cols: []int{0, -2, 0}, Cost: 3}, true},
		{api.Matching{To: to, Rows: []int{4, 2}, Cols: []int{0, -3, 0}, Cost: 3}, true}, // other prices
		{api.Matching{To: to, Rows: []int{4, 3}, Cols: []int{-1, -3, 0}, Cost: 3}, true},
		{api.Matching{To: to, Rows: []int{3, 2}, Cols: []int{0, -2, 0}, Cost: 4}, false},            // not the cost of To
		{api.Matching{To: to, Rows: []int{3, 2}, Cols: []int{0, -2, 0}, Cost: 2}, false},            // not the cost of To
		{api.Matching{To: to, Rows: []int{2, 2}, Cols: []int{0, -2, 0}, Cost: 3}, false},            // too little in row 0
		{api.Matching{To: to, Rows: []int{4, 2}, Cols: []int{0, -2, 0}, Cost: 3}, false},            // too much in row 0
		{api.Matching{To: to, Rows: []int{2, 2}, Cols: []int{0, -1, 0}, Cost: 3}, false},            // row 1 could have column 1
		{api.Matching{To: to, Rows: []int{5, 2}, Cols: []int{0, -4, 0}, Cost: 3}, false},            // row 0 could have column 0
		{api.Matching{To: to, Rows: []int{10, 8}, Cols: []int{-6, -9, 0}, Cost: 3}, false},          // row 0 could have column 2
		{api.Matching{To: to, Rows: []int{3, 1}, Cols: []int{1, -2, 0}, Cost: 3}, false},            // a price of a column above 0
		{api.Matching{To: to, Rows: []int{3, 2}, Cols: []int{0, -2, -1}, Cost: 3}, false},           // a free column with a price below 0
		{api.Matching{To: to, Rows: []int{3, 2}, Cols: []int{0, -2, 1}, Cost: 3}, false},            // a free column with a price above 0
		{api.Matching{To: []int{0, 1}, Rows: []int{4, 0}, Cols: []int{0, 0, 0}, Cost: 4}, false},    // dearer: row 0 could have column 1
		{api.Matching{To: []int{0, 1}, Rows: []int{4, 3}, Cols: []int{0, -3, 0}, Cost: 4}, false},   // dearer: row 1 could have column 0
		{api.Matching{To: []int{2, 0}, Rows: []int{9, 7}, Cols: []int{-5, -8, 0}, Cost: 11}, false}, // dearer: column 1 has a price
		{api.Matching{To: []int{2, 1}, Rows: []int{9, 8}, Cols: []int{-6, -8, 0}, Cost: 9}, false},  // dearer: column 0 has a price
	} {
		if isProof(table, c.m) != c.want {
			t.Fatalf("%v: the test is wrong", c.m)
		}
		ok, err := match.Proves(table, c.m)
		wantBool(t, "Proves", ok, err, c.want, api.OK)
	}
}

func TestProvesForm(t *testing.T) {
	table := [][]int{{4, 1, 9}, {2, 0, -1}}
	for _, to := range unfit() {
		ok, err := match.Proves(table, api.Matching{To: to, Rows: []int{2, 2}, Cols: []int{0, -1, 0}, Cost: 3})
		wantBool(t, "Proves", ok, err, false, api.ErrForm)
	}
	for _, rows := range [][]int{nil, {2}, {2, 2, 0}} {
		ok, err := match.Proves(table, api.Matching{To: []int{1, 0}, Rows: rows, Cols: []int{0, -1, 0}, Cost: 3})
		wantBool(t, "Proves", ok, err, false, api.ErrForm)
	}
	for _, cols := range [][]int{nil, {0, -1}, {0, -1, 0, 0}} {
		ok, err := match.Proves(table, api.Matching{To: []int{1, 0}, Rows: []int{2, 2}, Cols: cols, Cost: 3})
		wantBool(t, "Proves", ok, err, false, api.ErrForm)
	}
}

// TestGreatPrices: prices up to 2 * 10^18 either way count, greater ones never prove anything.
func TestGreatPrices(t *testing.T) {
	const most = 2000000000000000000
	for _, c := range []struct {
		table [][]int
		m     api.Matching
		want  bool
	}{
		{[][]int{{0}}, api.Matching{To: []int{0}, Rows: []int{most}, Cols: []int{-most}}, true},
		{[][]int{{7}}, api.Matching{To: []int{0}, Rows: []int{most}, Cols: []int{7 - most}, Cost: 7}, true},
		{[][]int{{0}}, api.Matching{To: []int{0}, Rows: []int{most + 1}, Cols: []int{-most - 1}}, false},
		{[][]int{{7}}, api.Matching{To: []int{0}, Rows: []int{most + 1}, Cols: []int{6 - most}, Cost: 7}, false},
		{[][]int{{7}}, api.Matching{To: []int{0}, Rows: []int{most + 7}, Cols: []int{-most}, Cost: 7}, false},
		{[][]int{{0}}, api.Matching{To: []int{0}, Rows: []int{math.MaxInt}, Cols: []int{-math.MaxInt}}, false},
		{[][]int{{0}}, api.Matching{To: []int{0}, Rows: []int{math.MinInt}, Cols: []int{math.MinInt}}, false}, // the sum overflows to 0
		{[][]int{{0, 5}}, api.Matching{To: []int{0}, Rows: []int{0}, Cols: []int{0, math.MinInt}}, false},
		{[][]int{{0, -1}, {-1, 0}}, api.Matching{To: []int{0, 1}, Rows: []int{most, most}, Cols: []int{-most, -most}}, true},
		{[][]int{{0, 0}, {0, 0}}, api.Matching{To: []int{0, 1}, Rows: []int{most, most}, Cols: []int{-most, -most}}, true},
		{[][]int{{0, -1}, {-1, 0}}, api.Matching{To: []int{0, 1}, Rows: []int{0, most + 1}, Cols: []int{0, -most - 1}}, false},
	} {
		if isProof(c.table, c.m) != c.want {
			t.Fatalf("%v: the test is wrong", c.m)
		}
		ok, err := match.Proves(c.table, c.m)
		wantBool(t, "Proves", ok, err, c.want, api.OK)
	}
}

// TestProvesOfAll changes matchings that are proved, a little.
func TestProvesOfAll(t *testing.T) {
	r := newRand()
	count := map[bool]int{}
	for range 5000 {
		table := smallTable(r)
		m, err := match.Best(table)
		if err != api.OK {
			continue
		}
		shift := between(r, -1, 2) // moves what is paid between a row and its column
		i := r.Intn(len(m.Rows))
		m.Rows[i] += shift
		m.Cols[m.To[i]] -= shift
		if r.Intn(3) == 0 {
			m.Cols[r.Intn(len(m.Cols))] += between(r, -1, 1)
		}
		if to := tryAny(r, table); r.Intn(3) == 0 && to != nil {
			m.To = to
			m.Cost, _ = match.Total(table, to)
		}
		want := isProof(table, m)
		ok, err := match.Proves(table, m)
		wantBool(t, "Proves", ok, err, want, api.OK)
		count[want]++
	}
	if count[true] < 500 || count[false] < 500 {
		t.Errorf("%v: this tests too little", count)
	}
}
