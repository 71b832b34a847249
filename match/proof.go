package match

import "clavecin/api"

// maxPrice is the greatest price either way: two of them can be added up.
const maxPrice = 2000000000000000000

// Proves tells whether prices prove a matching.
func Proves(cost [][]int, m api.Matching) (bool, api.Errno) {
	if Check(cost) != api.OK {
		return false, api.ErrArg
	}
	if !isAssignment(cost, m.To) || len(m.Rows) != len(cost) || len(m.Cols) != len(cost[0]) {
		return false, api.ErrForm
	}
	return m.Cost == total(cost, m.To) && columnsProve(m) && rowsProve(cost, m), api.OK
}

// columnsProve tells whether no column has a price above 0, and none without a row has one below.
func columnsProve(m api.Matching) bool {
	taken := make([]bool, len(m.Cols))
	for _, column := range m.To {
		taken[column] = true
	}
	for column, price := range m.Cols {
		if !within(price, -maxPrice, 0) || !taken[column] && price != 0 {
			return false
		}
	}
	return true
}

// rowsProve tells whether prices add up to the costs of the assignment, and nowhere to more than the cost.
func rowsProve(cost [][]int, m api.Matching) bool {
	for row, price := range m.Rows {
		if !within(price, -maxPrice, maxPrice) {
			return false
		}
		for column, c := range cost[row] {
			if c != barred && price+m.Cols[column] > c {
				return false
			}
		}
		if own := m.To[row]; price+m.Cols[own] != cost[row][own] {
			return false
		}
	}
	return true
}
