package match

import "slices"

// pricing gives rows columns at the least cost, with prices that prove it for the rows that have columns.
type pricing struct {
	cost  [][]int
	rows  []int // the price of each row
	cols  []int // the price of each column
	owner []int // the row of each column, or nobody
}

func newPricing(cost [][]int, columns int) *pricing {
	return &pricing{
		cost:  cost,
		rows:  make([]int, len(cost)),
		cols:  make([]int, columns),
		owner: slices.Repeat([]int{nobody}, columns),
	}
}

// findColumn gives a row a column such that all rows that have columns have them at the least cost.
// It tells whether that is possible.
func (p *pricing) findColumn(row int) bool {
	r := newReach(len(p.cols))
	p.widen(r, row, 0, nowhere)
	column := r.nearest()
	for column != nowhere && p.owner[column] != nobody {
		r.done[column] = true
		p.widen(r, p.owner[column], r.away[column], column)
		column = r.nearest()
	}
	if column == nowhere {
		return false
	}
	p.raise(r, row, r.away[column])
	p.moveOn(r, row, column)
	return true
}

// widen goes on from a row, which is a distance away, to the columns that it may have; from is the column that it has now.
func (p *pricing) widen(r *reach, row, away, from int) {
	for column, c := range p.cost[row] {
		if c == barred || r.done[column] {
			continue
		}
		further := away + c - p.rows[row] - p.cols[column]
		if further < r.away[column] {
			r.away[column], r.from[column] = further, from
		}
	}
}

// raise changes the prices such that a column at a distance can be reached from a row without a loss.
func (p *pricing) raise(r *reach, row, away int) {
	p.rows[row] += away
	for column, done := range r.done {
		if done {
			p.rows[p.owner[column]] += away - r.away[column]
			p.cols[column] -= away - r.away[column]
		}
	}
}

// moveOn moves each owner on the way to a free column to the next column, and a row to the first one.
func (p *pricing) moveOn(r *reach, row, column int) {
	for r.from[column] != nowhere {
		p.owner[column] = p.owner[r.from[column]]
		column = r.from[column]
	}
	p.owner[column] = row
}

// sum returns the sum of all prices, which is the cost.
func (p *pricing) sum() int {
	sum := 0
	for _, price := range p.rows {
		sum += price
	}
	for _, price := range p.cols {
		sum += price
	}
	return sum
}

// least returns the lexicographically least assignment that these prices prove. All rows have columns.
func (p *pricing) least() []int {
	pairs := newPairing(p.tight())
	spare := len(p.cost)
	for column, row := range p.owner {
		if row == nobody {
			row = spare
			spare++
		}
		pairs.owner[column] = row
	}
	to := make([]int, len(p.cost))
	for row := range to {
		to[row] = pairs.settle(row)
	}
	return to
}

// tight returns the graph in which the assignments that these prices prove are those that use all columns:
// spare rows, behind those of the table, have the columns that may stay free.
func (p *pricing) tight() graph {
	may := func(row, column int) bool {
		if row >= len(p.cost) {
			return p.cols[column] == 0
		}
		c := p.cost[row][column]
		return c != barred && p.rows[row]+p.cols[column] == c
	}
	return graph{columns: len(p.cols), may: may}
}

// nowhere stands for a column where there is none.
const nowhere = -1

// far is the distance of a column that cannot be reached.
const far = 1 << 60

// reach is how far columns are from a row that wants one: what it costs more than the prices say to go there,
// if each row on the way takes the column of the next one.
type reach struct {
	away []int
	from []int  // the column that the last row on the way gives up, or nowhere if it is the one that wants a column
	done []bool // the columns from whose owners the search has gone on
}

func newReach(columns int) *reach {
	return &reach{
		away: slices.Repeat([]int{far}, columns),
		from: slices.Repeat([]int{nowhere}, columns),
		done: make([]bool, columns),
	}
}

// nearest returns the nearest column that is not done, or nowhere.
func (r *reach) nearest() int {
	best, least := nowhere, far
	for column, away := range r.away {
		if !r.done[column] && away < least {
			best, least = column, away
		}
	}
	return best
}
