package temper

import (
	"cmp"
	"slices"

	"clavecin/api"
)

// Limits of a bearing plan, beside MaxTies.
const (
	maxPlanNotes = 64
	maxWeight    = 1000000
)

// Bearings returns the links of the spanning tree that Kruskal's method finds.
func Bearings(notes int, links []api.Link) ([]int, api.Errno) {
	if !isPlan(notes, links) {
		return nil, api.ErrArg
	}
	var tree []int
	g := newGroups(notes)
	for _, k := range byWeight(links) {
		if g.join(links[k].A, links[k].B) {
			tree = append(tree, k)
		}
	}
	if len(tree) < notes-1 {
		return nil, api.ErrNone
	}
	slices.Sort(tree)
	return tree, api.OK
}

// Passage returns the greatest weight that a path between two notes needs.
func Passage(notes int, links []api.Link, from, to int) (int, api.Errno) {
	if !isPlan(notes, links) || !within(from, 0, notes-1) || !within(to, 0, notes-1) {
		return 0, api.ErrArg
	}
	if from == to {
		return 0, api.OK
	}
	g := newGroups(notes)
	for _, k := range byWeight(links) {
		g.join(links[k].A, links[k].B)
		if g.find(from) == g.find(to) {
			return links[k].Weight, api.OK
		}
	}
	return 0, api.ErrNone
}

func isPlan(notes int, links []api.Link) bool {
	if !within(notes, 1, maxPlanNotes) || len(links) > api.MaxTies {
		return false
	}
	for _, l := range links {
		if !within(l.A, 0, notes-1) || !within(l.B, 0, notes-1) || !within(l.Weight, 0, maxWeight) {
			return false
		}
	}
	return true
}

// byWeight returns the numbers of links by rising weight, those of equal weight by rising number.
func byWeight(links []api.Link) []int {
	order := make([]int, len(links))
	for k := range order {
		order[k] = k
	}
	slices.SortStableFunc(order, func(a, b int) int { return cmp.Compare(links[a].Weight, links[b].Weight) })
	return order
}

// groups says which notes are connected: each note leads to another one of its group, or is its head.
type groups []int

func newGroups(notes int) groups {
	g := make(groups, notes)
	for note := range g {
		g[note] = note
	}
	return g
}

// find returns the head of a note's group.
func (g groups) find(note int) int {
	for g[note] != note {
		note = g[note]
	}
	return note
}

// join connects the groups of two notes, and tells whether they were two.
func (g groups) join(a, b int) bool {
	a, b = g.find(a), g.find(b)
	g[b] = a
	return a != b
}
