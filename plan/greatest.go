package plan

import "iter"

// greatest returns the first of the candidates whose value is the greatest, and this value; without candidates, zero values.
func greatest[C any](candidates iter.Seq[C], value func(C) int) (C, int) {
	var best C
	most, found := 0, false
	for candidate := range candidates {
		if v := value(candidate); !found || v > most {
			best, most, found = candidate, v, true
		}
	}
	return best, most
}

// upTo gives out the numbers from 0 on that are less than n.
func upTo(n int) iter.Seq[int] {
	return func(yield func(int) bool) {
		for i := range n {
			if !yield(i) {
				return
			}
		}
	}
}
