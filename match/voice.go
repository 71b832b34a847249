package match

import "clavecin/api"

// The greatest values of jacks, quills and their prices.
const (
	maxSize = 10000
	maxRate = 100
)

// Table returns the cost table of jacks and quills.
func Table(jacks []api.Jack, quills []api.Quill, bend, trim int) ([][]int, api.Errno) {
	if !within(len(jacks), 1, api.MaxRows) || !within(len(quills), len(jacks), api.MaxRows) ||
		!within(bend, 0, maxRate) || !within(trim, 0, maxRate) || !haveSizes(jacks, quills) {
		return nil, api.ErrArg
	}
	table := make([][]int, len(jacks))
	for i, jack := range jacks {
		table[i] = make([]int, len(quills))
		for k, quill := range quills {
			table[i][k] = price(jack, quill, bend, trim)
		}
	}
	return table, api.OK
}

// haveSizes tells whether all sizes of jacks and quills are in range.
func haveSizes(jacks []api.Jack, quills []api.Quill) bool {
	for _, jack := range jacks {
		if !within(jack.Want, 0, maxSize) || !within(jack.Reach, 0, maxSize) {
			return false
		}
	}
	for _, quill := range quills {
		if !within(quill.Stiff, 0, maxSize) || !within(quill.Length, 0, maxSize) {
			return false
		}
	}
	return true
}

// price returns what a quill costs in a jack.
func price(jack api.Jack, quill api.Quill, bend, trim int) int {
	if quill.Length < jack.Reach {
		return barred
	}
	off := quill.Stiff - jack.Want
	return max(off, -off)*bend + (quill.Length-jack.Reach)*trim
}

// Voice chooses a quill for each jack.
func Voice(jacks []api.Jack, quills []api.Quill, bend, trim int) ([]int, []int, int, api.Errno) {
	table, err := Table(jacks, quills, bend, trim)
	if err != api.OK {
		return nil, nil, 0, err
	}
	best, err := Best(table)
	if err != api.OK {
		return nil, nil, 0, err
	}
	offs := make([]int, len(jacks))
	for i, jack := range jacks {
		offs[i] = quills[best.To[i]].Length - jack.Reach
	}
	return best.To, offs, best.Cost, api.OK
}
