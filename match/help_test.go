package match_test

import (
	"math"
	"math/big"
	"math/rand"
	"slices"
	"testing"

	"clavecin/api"
	"clavecin/match"
)

// The signatures that the document lists.
var (
	_ func([][]int) api.Errno                                                = match.Check
	_ func([][]int) (api.Matching, api.Errno)                                = match.Best
	_ func([][]int, []int) (int, api.Errno)                                  = match.Total
	_ func([][]int, api.Matching) (bool, api.Errno)                          = match.Proves
	_ func([][]int) (int, api.Errno)                                         = match.Most
	_ func([][]int) ([]int, api.Errno)                                       = match.Hall
	_ func([][]int, int) (int, api.Errno)                                    = match.Without
	_ func([]api.Jack, []api.Quill, int, int) ([][]int, api.Errno)           = match.Table
	_ func([]api.Jack, []api.Quill, int, int) ([]int, []int, int, api.Errno) = match.Voice
)

const no = -1

func newRand() *rand.Rand { return rand.New(rand.NewSource(1)) }

// between returns a random number from low to high.
func between(r *rand.Rand, low, high int) int { return low + r.Intn(high-low+1) }

// filled returns a table of one cost.
func filled(rows, columns, cost int) [][]int {
	table := make([][]int, rows)
	for i := range table {
		table[i] = slices.Repeat([]int{cost}, columns)
	}
	return table
}

// anyTable returns a valid table of costs up to most; a cost is -1 in the given percentage of cases.
func anyTable(r *rand.Rand, rows, columns, most, percent int) [][]int {
	table := filled(rows, columns, no)
	for _, row := range table {
		for j := range row {
			if r.Intn(100) >= percent {
				row[j] = r.Intn(most + 1)
			}
		}
	}
	return table
}

// smallTable returns a table that is small enough to try everything.
func smallTable(r *rand.Rand) [][]int {
	columns := between(r, 1, 7)
	most := []int{0, 1, 3, 10, 1000000000}[r.Intn(5)]
	return anyTable(r, between(r, 1, columns), columns, most, []int{0, 20, 50, 70}[r.Intn(4)])
}

func copyTable(table [][]int) [][]int {
	other := slices.Clone(table)
	for i := range other {
		other[i] = slices.Clone(other[i])
	}
	return other
}

func sameTable(a, b [][]int) bool { return slices.EqualFunc(a, b, slices.Equal[[]int]) }

// faulty returns tables that are not valid.
func faulty() [][][]int {
	tables := [][][]int{nil, {}, {nil}, {{}}, {{1}, {1}}, {{1, 1}, {1, 1}, {1, 1}}, {{1, 1}, {1}}, {{1}, {1, 1}}, {{1, 1}, {1, 1, 1}},
		{{1, 1}, nil}, {nil, {1, 1}}, {{1, 1, 1}, {1, 1}}, filled(1, 65, 0), filled(65, 65, 0), filled(65, 64, 0), filled(64, 63, 0)}
	for _, bad := range []int{-2, 1000000001, math.MinInt, math.MaxInt} {
		for _, place := range [][2]int{{0, 0}, {0, 3}, {2, 0}, {2, 3}} {
			table := filled(3, 4, 5)
			table[place[0]][place[1]] = bad
			tables = append(tables, table)
		}
	}
	return tables
}

// solution is an assignment, or none.
type solution struct {
	found bool
	cost  int
	to    []int
}

// tryAll returns the lexicographically least of the cheapest assignments, by trying all of them in lexicographic order.
func tryAll(table [][]int) solution {
	var best solution
	to := make([]int, 0, len(table))
	var fill func(cost int)
	fill = func(cost int) {
		if len(to) == len(table) {
			if !best.found || cost < best.cost {
				best = solution{true, cost, slices.Clone(to)}
			}
			return
		}
		for j, c := range table[len(to)] {
			if c != no && !slices.Contains(to, j) {
				to = append(to, j)
				fill(cost + c)
				to = to[:len(to)-1]
			}
		}
	}
	fill(0)
	return best
}

// bySets returns what tryAll returns, from a table over the sets of columns that are used: a second method for up to about 14 columns.
func bySets(table [][]int) solution {
	const far = 1 << 60
	columns := len(table[0])
	rest := make([][]int, len(table)+1) // rest[row][used] is the cost of the rows from that one on
	rest[len(table)] = make([]int, 1<<columns)
	for row := len(table) - 1; row >= 0; row-- {
		rest[row] = slices.Repeat([]int{far}, 1<<columns)
		for used := range 1 << columns {
			for j, c := range table[row] {
				if c != no && used>>j&1 == 0 {
					rest[row][used] = min(rest[row][used], c+rest[row+1][used|1<<j])
				}
			}
		}
	}
	if rest[0][0] >= far {
		return solution{}
	}
	best := solution{found: true, cost: rest[0][0]}
	used := 0
	for row := range table {
		for j, c := range table[row] {
			if c != no && used>>j&1 == 0 && c+rest[row+1][used|1<<j] == rest[row][used] {
				best.to = append(best.to, j)
				used |= 1 << j
				break
			}
		}
	}
	return best
}

// byPaths returns how many rows can have columns at the same time and what that costs at least,
// by the shortest ways in the graph of what is left over, without prices: a second method for large tables.
func byPaths(table [][]int) (count, cost int) {
	const far = 1 << 60
	owner := slices.Repeat([]int{-1}, len(table[0]))
	column := slices.Repeat([]int{-1}, len(table))
	for {
		rows := make([]int, len(table)) // what it costs to let this row look for a column
		cols := slices.Repeat([]int{far}, len(owner))
		from := make([]int, len(owner)) // the row from which a column is come to
		for i := range rows {
			if column[i] >= 0 {
				rows[i] = far
			}
		}
		for changed := true; changed; {
			changed = false
			for i, list := range table {
				for j, c := range list {
					if rows[i] == far || c == no || j == column[i] || rows[i]+c >= cols[j] {
						continue
					}
					cols[j], from[j], changed = rows[i]+c, i, true
					if k := owner[j]; k >= 0 {
						rows[k] = cols[j] - table[k][j]
					}
				}
			}
		}
		end := -1
		for j, k := range owner {
			if k < 0 && cols[j] < far && (end < 0 || cols[j] < cols[end]) {
				end = j
			}
		}
		if end < 0 {
			return count, cost
		}
		count, cost = count+1, cost+cols[end]
		for end >= 0 {
			owner[end] = from[end]
			column[from[end]], end = end, column[from[end]]
		}
	}
}

// isProof is the document's definition of prices that prove a matching, with numbers of any size.
func isProof(table [][]int, m api.Matching) bool {
	cost := 0
	free := slices.Repeat([]bool{true}, len(m.Cols))
	for i, j := range m.To {
		cost += table[i][j]
		free[j] = false
	}
	good := cost == m.Cost
	for j, price := range m.Cols {
		good = good && price <= 0 && (!free[j] || price == 0)
	}
	for i, row := range table {
		for j, c := range row {
			sum := new(big.Int).Add(big.NewInt(int64(m.Rows[i])), big.NewInt(int64(m.Cols[j])))
			order := sum.Cmp(big.NewInt(int64(c)))
			good = good && (c == no || order <= 0) && (m.To[i] != j || order == 0)
		}
	}
	for _, price := range slices.Concat(m.Rows, m.Cols) {
		good = good && price >= -2e18 && price <= 2e18
	}
	return good
}

// columnsOf returns how many columns at least one of some rows may have.
func columnsOf(table [][]int, rows []int) int {
	count := 0
	for j := range table[0] {
		if slices.ContainsFunc(rows, func(i int) bool { return table[i][j] != no }) {
			count++
		}
	}
	return count
}

// rowsOf returns the rows of a set of bits.
func rowsOf(set int) []int {
	var rows []int
	for i := 0; set>>i != 0; i++ {
		if set>>i&1 == 1 {
			rows = append(rows, i)
		}
	}
	return rows
}

// wantInt tests a number and its error against those that are right.
func wantInt(t *testing.T, name string, got int, err api.Errno, want int, wantErr api.Errno) {
	t.Helper()
	if got != want || err != wantErr {
		t.Errorf("%s: %d, error %d, want %d, error %d", name, got, err, want, wantErr)
	}
}

// wantList tests a list and its error against those that are right.
func wantList(t *testing.T, name string, got []int, err api.Errno, want []int, wantErr api.Errno) {
	t.Helper()
	if !slices.Equal(got, want) || err != wantErr {
		t.Errorf("%s: %v, error %d, want %v, error %d", name, got, err, want, wantErr)
	}
}

// wantBool tests an answer and its error against those that are right.
func wantBool(t *testing.T, name string, got bool, err api.Errno, want bool, wantErr api.Errno) {
	t.Helper()
	if got != want || err != wantErr {
		t.Errorf("%s: %t, error %d, want %t, error %d", name, got, err, want, wantErr)
	}
}

// wantNothing tests that a matching is the zero value.
func wantNothing(t *testing.T, name string, m api.Matching, err, wantErr api.Errno) {
	t.Helper()
	if len(m.To) != 0 || len(m.Rows) != 0 || len(m.Cols) != 0 || m.Cost != 0 || err != wantErr {
		t.Errorf("%s: %v, error %d, want nothing, error %d", name, m, err, wantErr)
	}
}

// wantBest tests Best against a solution: promises Q1, Q2, P2 and P3.
func wantBest(t *testing.T, table [][]int, want solution) {
	t.Helper()
	m, err := match.Best(table)
	if !want.found {
		wantNothing(t, "Best", m, err, api.ErrNone)
		return
	}
	if err != api.OK || m.Cost != want.cost || !slices.Equal(m.To, want.to) {
		t.Fatalf("Best(%v): %v at %d, error %d, want %v at %d", table, m.To, m.Cost, err, want.to, want.cost)
	}
	wantProof(t, table, m)
}

// wantProof tests that a matching is proved by its prices, as the document says and as Proves and Total say.
func wantProof(t *testing.T, table [][]int, m api.Matching) {
	t.Helper()
	if len(m.To) != len(table) || len(m.Rows) != len(table) || len(m.Cols) != len(table[0]) {
		t.Fatalf("Best(%v): %v", table, m)
	}
	if !isProof(table, m) {
		t.Fatalf("Best(%v): the prices of %v do not prove it", table, m)
	}
	good, err := match.Proves(table, m)
	wantBool(t, "Proves", good, err, true, api.OK)
	cost, err := match.Total(table, m.To)
	wantInt(t, "Total", cost, err, m.Cost, api.OK)
	sum := 0
	for _, price := range slices.Concat(m.Rows, m.Cols) {
		sum += price
	}
	wantInt(t, "the sum of all prices", sum, api.OK, m.Cost, api.OK)
}
