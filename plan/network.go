package plan

import "clavecin/api"

// Kinds of arcs.
const (
	arcIn     = iota // from the source to where a task begins
	arcNormal        // through a task, as long as it takes at most
	arcCrash         // through a task, as long as it takes at least
	arcLink          // from where a task ends to where a later one begins
	arcOut           // from where a task ends to the sink
	kinds            // how many kinds there are
)

// The first nodes; behind them every task has two.
const (
	source = 0
	sink   = 1
)

func beginOf(task int) int { return 2 + 2*task }
func endOf(task int) int   { return 3 + 2*task }

// unlimited is more than flows along any arc of a valid flow, even if as much is added again.
const unlimited = 1 << 40

// arc is a way along which something can flow.
type arc struct {
	kind     int
	from, to int
	length   int // in days
	room     int // how much more can flow
}

// network is a project with a flow along its arcs.
// Each arc at an even place is followed by the same one backwards, whose room is what flows.
type network struct {
	arcs   []arc
	leaves [][]int // the places of the arcs that begin at each node
}

// newNetwork returns the network of a project, without a flow.
func newNetwork(tasks []api.Task) *network {
	n := &network{leaves: make([][]int, endOf(len(tasks)-1)+1)}
	for i, task := range tasks {
		n.add(arc{kind: arcIn, from: source, to: beginOf(i), room: unlimited})
		n.add(arc{kind: arcNormal, from: beginOf(i), to: endOf(i), length: task.Normal, room: task.Rate})
		n.add(arc{kind: arcCrash, from: beginOf(i), to: endOf(i), length: task.Crash, room: unlimited})
		for _, other := range task.After {
			n.add(arc{kind: arcLink, from: endOf(other), to: beginOf(i), room: unlimited})
		}
		n.add(arc{kind: arcOut, from: endOf(i), to: sink, room: unlimited})
	}
	return n
}

// add adds an arc and the same one backwards.
func (n *network) add(a arc) {
	n.leaves[a.from] = append(n.leaves[a.from], len(n.arcs))
	n.leaves[a.to] = append(n.leaves[a.to], len(n.arcs)+1)
	n.arcs = append(n.arcs, a, arc{kind: a.kind, from: a.to, to: a.from, length: -a.length})
}

// push lets an amount flow along the arc at a place.
func (n *network) push(place, amount int) {
	n.arcs[place].room -= amount
	n.arcs[place^1].room += amount
}

// flowing returns what flows from the source to the sink.
func (n *network) flowing() int {
	sum := 0
	for _, place := range n.leaves[source] {
		sum += n.arcs[place^1].room
	}
	return sum
}

// isBalanced tells whether as much leaves each node as comes in, but for the source and the sink.
func (n *network) isBalanced() bool {
	for _, places := range n.leaves[sink+1:] {
		sum := 0
		for _, place := range places {
			if place%2 == 0 {
				sum -= n.arcs[place+1].room
			} else {
				sum += n.arcs[place].room
			}
		}
		if sum != 0 {
			return false
		}
	}
	return true
}

// flow returns what flows along each arc.
func (n *network) flow() api.Flow {
	var lists [kinds][]int
	for place := 0; place < len(n.arcs); place += 2 {
		kind := n.arcs[place].kind
		lists[kind] = append(lists[kind], n.arcs[place+1].room)
	}
	return api.Flow{Normal: lists[arcNormal], Crash: lists[arcCrash], Links: lists[arcLink], In: lists[arcIn], Out: lists[arcOut]}
}

// take lets a flow pass through a network that has none yet, and tells whether the flow is valid.
func (n *network) take(f api.Flow) bool {
	lists := [kinds][]int{arcNormal: f.Normal, arcCrash: f.Crash, arcLink: f.Links, arcIn: f.In, arcOut: f.Out}
	for place := 0; place < len(n.arcs); place += 2 {
		a := n.arcs[place]
		list := lists[a.kind]
		if len(list) == 0 || !within(list[0], 0, min(a.room, maxFlow)) {
			return false
		}
		n.push(place, list[0])
		lists[a.kind] = list[1:]
	}
	for _, list := range lists {
		if len(list) > 0 {
			return false
		}
	}
	return n.isBalanced()
}

// worth returns what the flow proves for a deadline.
func (n *network) worth(deadline int) int {
	sum := -deadline * n.flowing()
	for place := 0; place < len(n.arcs); place += 2 {
		sum += n.arcs[place].length * n.arcs[place+1].room
	}
	return sum
}
