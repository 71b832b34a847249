package wire

import (
	"strconv"

	"clavecin/api"
)

// Check tells whether a scaling is valid.
func Check(s api.Scaling) api.Errno {
	valid := within(len(s.Courses), 1, api.MaxCourses) &&
		within(len(s.Metals), 1, api.MaxMetals) &&
		within(len(s.Gauges), 1, api.MaxGauges) &&
		within(s.Safety, 1, maxSafety) &&
		within(s.Changes, 0, api.MaxCourses) &&
		areGauges(s.Gauges) && areMetals(s.Metals, len(s.Gauges)) && areCourses(s.Courses)
	if !valid {
		return api.ErrArg
	}
	return api.OK
}

func areGauges(gauges []int) bool {
	for i, diameter := range gauges {
		if !within(diameter, 1, maxDiameter) || i > 0 && diameter >= gauges[i-1] {
			return false
		}
	}
	return true
}

func areMetals(metals []api.Metal, gauges int) bool {
	for _, metal := range metals {
		if !within(metal.Density, 1, maxDensity) || len(metal.Strength) != gauges {
			return false
		}
		for _, strength := range metal.Strength {
			if !within(strength, 1, maxStrength) {
				return false
			}
		}
	}
	return true
}

func areCourses(courses []api.Course) bool {
	for _, c := range courses {
		valid := within(c.Length, 1, maxLength) && within(c.Freq, 1, maxFreq) &&
			within(c.Target, 0, 1000000000) && within(c.Weight, 0, 1000)
		if !valid {
			return false
		}
	}
	return true
}

// Cost returns the cost of picks.
func Cost(s api.Scaling, picks []api.Pick) (int, api.Errno) {
	if err := checkPicks(s, picks); err != api.OK {
		return 0, err
	}
	if !areAllowed(s, picks) {
		return 0, api.ErrNone
	}
	cost := 0
	for i, pick := range picks {
		cost += price(s, i, pick)
	}
	return cost, api.OK
}

// Pull returns the sum of all tensions.
func Pull(s api.Scaling, picks []api.Pick) (int, api.Errno) {
	if err := checkPicks(s, picks); err != api.OK {
		return 0, err
	}
	pull := 0
	for i, pick := range picks {
		pull += tensionOf(s, i, pick)
	}
	return pull, api.OK
}

// Needs returns how much wire is needed.
func Needs(s api.Scaling, picks []api.Pick, tail int) ([]api.Lot, api.Errno) {
	if !within(tail, 0, 100000) {
		return nil, api.ErrArg
	}
	if err := checkPicks(s, picks); err != api.OK {
		return nil, err
	}
	var lots []api.Lot
	for _, kind := range picksOf(s) {
		// A wire that is used is never of length 0.
		if qty := lengthOf(s, picks, kind, tail); qty > 0 {
			lots = append(lots, api.Lot{Account: "wire", Item: nameOf(s, kind), Qty: qty})
		}
	}
	return lots, api.OK
}

// checkPicks tells whether a scaling is valid and picks fit it.
func checkPicks(s api.Scaling, picks []api.Pick) api.Errno {
	if Check(s) != api.OK {
		return api.ErrArg
	}
	if len(picks) != len(s.Courses) {
		return api.ErrForm
	}
	for _, pick := range picks {
		if !within(pick.Metal, 0, len(s.Metals)-1) || !within(pick.Gauge, 0, len(s.Gauges)-1) {
			return api.ErrForm
		}
	}
	return api.OK
}

// areAllowed tells whether picks that fit are allowed.
func areAllowed(s api.Scaling, picks []api.Pick) bool {
	changes := 0
	for i, pick := range picks {
		if !holdsWith(s, i, pick) {
			return false
		}
		if i == 0 || pick == picks[i-1] {
			continue
		}
		if !follows(picks[i-1], pick) {
			return false
		}
		changes++
	}
	return changes <= s.Changes
}

// follows tells whether a pick may come after another one.
func follows(before, pick api.Pick) bool {
	return pick.Metal >= before.Metal && pick.Gauge >= before.Gauge
}

// holdsWith tells whether a course holds with a pick.
func holdsWith(s api.Scaling, course int, pick api.Pick) bool {
	c, metal := s.Courses[course], s.Metals[pick.Metal]
	return holds(metal.Density, metal.Strength[pick.Gauge], c.Length, c.Freq, s.Safety)
}

func tensionOf(s api.Scaling, course int, pick api.Pick) int {
	c := s.Courses[course]
	return tension(s.Metals[pick.Metal].Density, s.Gauges[pick.Gauge], c.Length, c.Freq)
}

// price returns what a course costs with a pick.
func price(s api.Scaling, course int, pick api.Pick) int {
	off := tensionOf(s, course, pick) - s.Courses[course].Target
	return s.Courses[course].Weight * max(off, -off)
}

// picksOf returns all picks of a scaling, by metal and then by gauge.
func picksOf(s api.Scaling) []api.Pick {
	var picks []api.Pick
	for metal := range s.Metals {
		for gauge := range s.Gauges {
			picks = append(picks, api.Pick{Metal: metal, Gauge: gauge})
		}
	}
	return picks
}

// lengthOf returns how much wire of a kind is needed.
func lengthOf(s api.Scaling, picks []api.Pick, kind api.Pick, tail int) int {
	length := 0
	for i, pick := range picks {
		if pick == kind {
			length += s.Courses[i].Length + tail
		}
	}
	return length
}

// nameOf returns the item of the stock that a pick is cut from.
func nameOf(s api.Scaling, pick api.Pick) string {
	return "m" + strconv.Itoa(pick.Metal) + "g" + strconv.Itoa(s.Gauges[pick.Gauge])
}
