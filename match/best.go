package match

import (
	"slices"

	"clavecin/api"
)

// Best returns the cheapest assignment, with prices that prove it.
func Best(cost [][]int) (api.Matching, api.Errno) {
	if Check(cost) != api.OK {
		return api.Matching{}, api.ErrArg
	}
	p := newPricing(cost, len(cost[0]))
	if firstStuck(len(cost), p.findColumn) < len(cost) {
		return api.Matching{}, api.ErrNone
	}
	return api.Matching{To: p.least(), Rows: p.rows, Cols: p.cols, Cost: p.sum()}, api.OK
}

// Without returns the least cost without a row.
func Without(cost [][]int, row int) (int, api.Errno) {
	if Check(cost) != api.OK || !within(row, 0, len(cost)-1) {
		return 0, api.ErrArg
	}
	others := slices.Delete(slices.Clone(cost), row, row+1)
	p := newPricing(others, len(cost[0]))
	if firstStuck(len(others), p.findColumn) < len(others) {
		return 0, api.ErrNone
	}
	return p.sum(), api.OK
}
