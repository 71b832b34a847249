package plan

import (
	"slices"

	"clavecin/api"
)

// Best returns the cheapest schedule that meets a deadline.
func Best(tasks []api.Task, deadline int) (api.Schedule, api.Errno) {
	net, err := descend(tasks, deadline)
	if err != api.OK {
		return api.Schedule{}, err
	}
	days := greatestDays(tasks, newGaps(net, deadline))
	t := newTimes(tasks, days)
	return api.Schedule{Start: t.starts, Days: days, Finish: t.finish(), Cost: costOf(tasks, days)}, api.OK
}

// greatestDays returns the lexicographically greatest days that gaps allow.
func greatestDays(tasks []api.Task, g gaps) []int {
	days := make([]int, len(tasks))
	for i, task := range tasks {
		days[i] = min(task.Normal, -g[endOf(i)][beginOf(i)])
		g.demand(beginOf(i), endOf(i), days[i])
	}
	return days
}

// gaps tells for each two nodes of a network how many days the second one is later than the first one at least (if below 0: earlier at most).
type gaps [][]int

// unknown is less than every gap, even if several gaps are added to it.
const unknown = -1 << 40

// newGaps returns the gaps that all cheapest schedules for a deadline have, given a flow that is worth most for it.
// Days are as cheap as that exactly if they leave each arc with room its length, backwards too where something flows,
// and meet the deadline on the day if something flows from the source to the sink.
func newGaps(n *network, deadline int) gaps {
	g := make(gaps, len(n.leaves))
	for node := range g {
		g[node] = slices.Repeat([]int{unknown}, len(n.leaves))
		g[node][node] = 0
	}
	for _, a := range n.arcs {
		if a.room > 0 {
			g.demand(a.from, a.to, a.length)
		}
	}
	g.demand(sink, source, -deadline)
	if n.flowing() > 0 {
		g.demand(source, sink, deadline)
	}
	return g
}

// demand makes a node so many days later than another one at least.
func (g gaps) demand(from, to, days int) {
	if g[from][to] >= days {
		return
	}
	for _, row := range g {
		for node, gap := range g[to] {
			row[node] = max(row[node], row[from]+days+gap)
		}
	}
}
