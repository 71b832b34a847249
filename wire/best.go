package wire

import (
	"slices"

	"clavecin/api"
)

// far is more than any picks cost. It is the cost of what is not allowed; twice far is still an int.
const far = 1 << 60

// Best returns the cheapest picks.
func Best(s api.Scaling) ([]api.Pick, int, api.Errno) {
	if Check(s) != api.OK {
		return nil, 0, api.ErrArg
	}
	c := newChoice(s)
	for course := len(s.Courses) - 1; course >= 0; course-- {
		c.fill(course)
	}
	least := far
	for number := range c.picks {
		least = min(least, c.rest[0][number][c.changes])
	}
	if least == far {
		return nil, 0, api.ErrNone
	}
	return c.way(least), least, api.OK
}

// choice finds the cheapest picks from the last course backwards.
type choice struct {
	scaling api.Scaling
	picks   []api.Pick // in the order in which they are compared
	changes int
	// rest[course][number][left] is what the courses from that one on cost at least
	// if it has the pick of that number and at most left changes come after it.
	rest [][][]int
}

func newChoice(s api.Scaling) *choice {
	// Each change raises the metal or the gauge: more changes than these cannot happen.
	most := len(s.Metals) + len(s.Gauges) - 2
	return &choice{scaling: s, picks: picksOf(s), changes: min(s.Changes, most), rest: make([][][]int, len(s.Courses))}
}

// fill finds the costs of a course from those of the next one.
func (c *choice) fill(course int) {
	c.rest[course] = make([][]int, len(c.picks))
	for number, pick := range c.picks {
		row := slices.Repeat([]int{far}, c.changes+1)
		if holdsWith(c.scaling, course, pick) {
			own := price(c.scaling, course, pick)
			for left := range row {
				row[left] = min(far, own+c.onward(course, number, left))
			}
		}
		c.rest[course][number] = row
	}
}

// onward returns what the courses behind one cost at least.
func (c *choice) onward(course, number, left int) int {
	if course+1 == len(c.scaling.Courses) {
		return 0
	}
	least := far
	for next := number; next < len(c.picks); next++ {
		least = min(least, c.after(course, number, next, left))
	}
	return least
}

// after returns what the courses behind one cost at least if the next one has the pick of number next.
func (c *choice) after(course, number, next, left int) int {
	before, pick := c.picks[number], c.picks[next]
	if pick != before {
		left--
	}
	if left < 0 || !follows(before, pick) {
		return far
	}
	return c.rest[course+1][next][left]
}

// way returns the lexicographically least of the picks that cost least.
func (c *choice) way(least int) []api.Pick {
	number, left := 0, c.changes
	for c.rest[0][number][left] != least {
		number++
	}
	picks := []api.Pick{c.picks[number]}
	for course := range len(c.scaling.Courses) - 1 {
		next, rest := number, c.onward(course, number, left)
		for c.after(course, number, next, left) != rest {
			next++
		}
		if c.picks[next] != c.picks[number] {
			left--
		}
		number = next
		picks = append(picks, c.picks[number])
	}
	return picks
}
