package temper

import (
	"iter"
	"slices"

	"clavecin/api"
)

// far is more than any steps cost. It is the cost of what is not allowed.
const far = 1 << 40

// Best returns the lexicographically least ones of the cheapest steps.
func Best(r api.Ring) ([]int, int, api.Errno) {
	if Check(r) != api.OK {
		return nil, 0, api.ErrArg
	}
	s := newSearch(r)
	var best []int
	least := far
next:
	for number, first := range beginnings(r) {
		begun := 0
		for i, step := range first {
			begun += priceOfFifth(r, i, step)
		}
		s.close(first)
		for place := r.Notes - 1; place >= len(first); place-- {
			// Beginnings come in lexicographic order: one that costs only as much as an earlier one is of no use.
			if begun+s.fill(place) >= least {
				continue next
			}
		}
		if cost := begun + s.cost(len(first), number, s.left(first)); cost < least {
			least, best = cost, s.way(number, first)
		}
	}
	if best == nil {
		return nil, 0, api.ErrNone
	}
	return best, least, api.OK
}

// beginnings gives out all runs of Span - 1 steps in lexicographic order, with their numbers.
func beginnings(r api.Ring) iter.Seq2[int, []int] {
	return func(yield func(int, []int) bool) {
		for number := range countRuns(r) {
			if !yield(number, runOf(r, number)) {
				return
			}
		}
	}
}

func countRuns(r api.Ring) int {
	count := 1
	for range r.Span - 1 {
		count *= kindsOf(r)
	}
	return count
}

// runOf returns a run by its number, whose digits are the steps above Low.
func runOf(r api.Ring, number int) []int {
	run := make([]int, r.Span-1)
	for i := range run {
		run[i] = r.Low + number%kindsOf(r)
		number /= kindsOf(r)
	}
	slices.Reverse(run)
	return run
}

// kindsOf returns how many values a step may have.
func kindsOf(r api.Ring) int {
	return r.High - r.Low + 1
}

// search finds the cheapest way to finish a circle, from its last place backwards, for one beginning after the other.
type search struct {
	ring  api.Ring
	kinds int
	runs  [][]int
	sums  []int // of the runs
	// rest[place][number][left] is what the steps from place on cost at least, with the thirds that end there,
	// after the run of that number, if they are to be left units above Low together.
	rest [][][]int
}

func newSearch(r api.Ring) *search {
	s := &search{ring: r, kinds: kindsOf(r), rest: make([][][]int, r.Notes+1)}
	for _, run := range beginnings(r) {
		s.runs = append(s.runs, run)
		s.sums = append(s.sums, sum(run))
	}
	for place := r.Span - 1; place <= r.Notes; place++ {
		s.rest[place] = make([][]int, len(s.runs))
		for number := range s.runs {
			s.rest[place][number] = make([]int, (r.Notes-place)*(s.kinds-1)+1)
		}
	}
	return s
}

// close begins with the costs of the thirds that reach from the end of the circle into its first steps.
func (s *search) close(first []int) {
	for number, last := range s.runs {
		s.rest[s.ring.Notes][number][0] = s.priceOfEnd(last, first)
	}
}

// priceOfEnd returns what the thirds cost that begin in the last steps and end in the first ones.
func (s *search) priceOfEnd(last, first []int) int {
	steps := slices.Concat(last, first)
	cost := 0
	for k := range last {
		third, allowed := priceOfThird(s.ring, s.ring.Notes-len(last)+k, s.ring.Pure-sum(steps[k:k+s.ring.Span]))
		if !allowed {
			return far
		}
		cost += third
	}
	return cost
}

// fill finds the costs of a place from those of the next one, and returns the least of them.
func (s *search) fill(place int) int {
	least := far
	for number, row := range s.rest[place] {
		for left := range row {
			row[left] = far
		}
		for above := range s.kinds {
			cost, allowed := s.price(place, number, above)
			if !allowed {
				continue
			}
			for left, rest := range s.rest[place+1][s.shift(number, above)] {
				row[left+above] = min(row[left+above], rest+cost)
			}
		}
		least = min(least, slices.Min(row))
	}
	return least
}

// price returns what a step at a place costs after a run, with the third that ends there, and whether it is allowed.
func (s *search) price(place, number, above int) (int, bool) {
	step := s.ring.Low + above
	third, allowed := priceOfThird(s.ring, place+1-s.ring.Span, s.ring.Pure-s.sums[number]-step)
	return priceOfFifth(s.ring, place, step) + third, allowed
}

// shift returns the number of a run that a step is added to and whose first step is left out.
func (s *search) shift(number, above int) int {
	return (number*s.kinds + above) % len(s.runs)
}

// left returns how many units above Low the steps after the first ones are to be together.
func (s *search) left(first []int) int {
	return s.ring.Total - sum(first) - (s.ring.Notes-len(first))*s.ring.Low
}

// cost returns what is in the table, or far beyond it.
func (s *search) cost(place, number, left int) int {
	row := s.rest[place][number]
	if left < 0 || left >= len(row) {
		return far
	}
	return row[left]
}

// way returns the lexicographically least of the cheapest ways to go on after the first steps.
func (s *search) way(number int, first []int) []int {
	steps := slices.Clone(first)
	left := s.left(first)
	for place := len(first); place < s.ring.Notes; place++ {
		above := s.leastStep(place, number, left)
		steps = append(steps, s.ring.Low+above)
		number = s.shift(number, above)
		left -= above
	}
	return steps
}

// leastStep returns the least step with which a circle can be finished at the least cost.
func (s *search) leastStep(place, number, left int) int {
	for above := range s.kinds {
		cost, allowed := s.price(place, number, above)
		if allowed && cost+s.cost(place+1, s.shift(number, above), left-above) == s.cost(place, number, left) {
			return above
		}
	}
	return 0
}
