package match

import (
	"slices"

	"clavecin/api"
)

// nobody is the owner of a column that no row has.
const nobody = -1

// graph says which columns each row may have.
type graph struct {
	columns int
	may     func(row, column int) bool
}

// allowed returns the graph of a cost table.
func allowed(cost [][]int) graph {
	may := func(row, column int) bool { return cost[row][column] != barred }
	return graph{columns: len(cost[0]), may: may}
}

// pairing gives rows columns of a graph, no column twice.
type pairing struct {
	graph graph
	owner []int  // the row of each column, or nobody
	kept  []bool // the columns that their rows do not give up
	seen  []bool // the columns that the search has come to, and those that are kept
}

func newPairing(g graph) *pairing {
	return &pairing{
		graph: g,
		owner: slices.Repeat([]int{nobody}, g.columns),
		kept:  make([]bool, g.columns),
		seen:  make([]bool, g.columns),
	}
}

// findColumn gives a row that has no column the least one that it can have if other rows may move to other columns.
// It tells whether there is one.
func (p *pairing) findColumn(row int) bool {
	copy(p.seen, p.kept)
	return p.makeRoom(row)
}

// makeRoom is findColumn among the columns that the search has not come to yet.
func (p *pairing) makeRoom(row int) bool {
	for column := range p.graph.columns {
		if p.seen[column] || !p.graph.may(row, column) {
			continue
		}
		// A column that cannot be given up now cannot later in this search either: it is tried once.
		p.seen[column] = true
		if p.owner[column] == nobody || p.makeRoom(p.owner[column]) {
			p.owner[column] = row
			return true
		}
	}
	return false
}

// settle gives a row that has a column the least one that it can have, for good, if the other rows are to have columns, too.
func (p *pairing) settle(row int) int {
	p.owner[slices.Index(p.owner, row)] = nobody
	p.findColumn(row)
	column := slices.Index(p.owner, row)
	p.kept[column] = true
	return column
}

// firstStuck searches a column for each row and returns the first row for which there is none, or the number of rows.
func firstStuck(rows int, search func(row int) bool) int {
	for row := range rows {
		if !search(row) {
			return row
		}
	}
	return rows
}

// Most returns how many rows can have columns at the same time.
func Most(cost [][]int) (int, api.Errno) {
	if Check(cost) != api.OK {
		return 0, api.ErrArg
	}
	pairs := newPairing(allowed(cost))
	count := 0
	for row := range cost {
		if pairs.findColumn(row) {
			count++
		}
	}
	return count, api.OK
}

// Hall returns rows that have too few columns.
func Hall(cost [][]int) ([]int, api.Errno) {
	if Check(cost) != api.OK {
		return nil, api.ErrArg
	}
	pairs := newPairing(allowed(cost))
	stuck := firstStuck(len(cost), pairs.findColumn)
	if stuck == len(cost) {
		return nil, api.ErrNone
	}
	// The search has come to all columns that the stuck row and their owners may have, one fewer than these rows.
	// A Hall set within them has the stuck row, because the other ones have columns, and so all that its search came to.
	rows := []int{stuck}
	for column, row := range pairs.owner {
		if pairs.seen[column] {
			rows = append(rows, row)
		}
	}
	slices.Sort(rows)
	return rows, api.OK
}
