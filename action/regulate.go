package action

import (
	"slices"

	"clavecin/api"
)

// Limits of a regulation, beside MaxVars and MaxTies.
const (
	maxLeast = 1000000
	maxTop   = 1000000
	maxValue = 1000000000
)

// ground is the place of the constant 0 in a tie.
const ground = -1

// Regulate returns the least solution of a regulation.
func Regulate(n int, ties []api.Tie) ([]int, api.Errno) {
	if !isRegulation(n, ties) {
		return nil, api.ErrArg
	}
	r := newRaising(n, withFloor(n, ties))
	if r.settle() != nowhere {
		return nil, api.ErrNone
	}
	return r.heights(), api.OK
}

// Clash returns ties that contradict each other.
func Clash(n int, ties []api.Tie) ([]int, api.Errno) {
	if !isRegulation(n, ties) {
		return nil, api.ErrArg
	}
	r := newRaising(n, withFloor(n, ties))
	stuck := r.settle()
	if stuck == nowhere {
		return nil, api.ErrNone
	}
	return r.circle(stuck), api.OK
}

// Slack returns how much each tie leaves.
func Slack(n int, ties []api.Tie, x []int) ([]int, api.Errno) {
	if !isRegulation(n, ties) || len(x) != n || !areValues(x) {
		return nil, api.ErrArg
	}
	slack := make([]int, len(ties))
	for i, t := range ties {
		slack[i] = valueAt(x, t.B) - valueAt(x, t.A) - t.Least
	}
	return slack, api.OK
}

// Highest returns the greatest solution up to a top.
func Highest(n int, ties []api.Tie, top int) ([]int, api.Errno) {
	if !isRegulation(n, ties) || !within(top, 0, maxTop) {
		return nil, api.ErrArg
	}
	// How far the variables lie below the top is least where they are greatest.
	r := newRaising(n, withFloor(n, fromTop(withFloor(n, ties), top)))
	if r.settle() != nowhere {
		return nil, api.ErrNone
	}
	x := r.heights()
	for i, depth := range x {
		x[i] = top - depth
	}
	return x, api.OK
}

// isRegulation tells whether a regulation is valid.
func isRegulation(n int, ties []api.Tie) bool {
	if !within(n, 1, api.MaxVars) || len(ties) > api.MaxTies {
		return false
	}
	for _, t := range ties {
		if !within(t.A, ground, n-1) || !within(t.B, ground, n-1) || !within(t.Least, -maxLeast, maxLeast) {
			return false
		}
	}
	return true
}

func areValues(x []int) bool {
	return !slices.ContainsFunc(x, func(value int) bool { return !within(value, 0, maxValue) })
}

func valueAt(x []int, place int) int {
	if place == ground {
		return 0
	}
	return x[place]
}

// withFloor returns ties and, behind them, those that demand 0 or more of every variable.
func withFloor(n int, ties []api.Tie) []api.Tie {
	all := slices.Clone(ties)
	for i := range n {
		all = append(all, api.Tie{A: ground, B: i})
	}
	return all
}

// fromTop returns what ties demand of the distances of the variables from a top.
func fromTop(ties []api.Tie, top int) []api.Tie {
	turned := make([]api.Tie, len(ties))
	for i, t := range ties {
		turned[i] = api.Tie{A: t.B, B: t.A, Least: t.Least}
		if t.A == ground {
			turned[i].Least -= top
		}
		if t.B == ground {
			turned[i].Least += top
		}
	}
	return turned
}
