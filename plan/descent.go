package plan

import (
	"iter"

	"clavecin/api"
)

// descent moves the day of a project's sink down from the finish at the normal lengths, with a flow that is worth most for each day that it comes to (Kelley and Fulkerson).
//
// No arc with room leads to a node that is less than its length later than the node where it begins.
// Arcs along which something flows have room backwards: thus days and flow prove each other.
type descent struct {
	net     *network
	days    []int  // the day of each node
	reached []bool // the nodes to which the search came
	by      []int  // the place of the arc by which it came to each node
}

func newDescent(tasks []api.Task) *descent {
	net := newNetwork(tasks)
	nodes := len(net.leaves)
	d := &descent{net: net, days: make([]int, nodes), reached: make([]bool, nodes), by: make([]int, nodes)}
	t := newTimes(tasks, normalDays(tasks))
	for i := range tasks {
		d.days[beginOf(i)], d.days[endOf(i)] = t.starts[i], t.done(i)
	}
	d.days[sink] = t.finish()
	return d
}

// day returns the day of the sink.
func (d *descent) day() int {
	return d.days[sink]
}

// fill adds all that can flow along arcs without lead to the flow.
func (d *descent) fill() {
	for d.search() {
		d.widen()
	}
}

// search goes from the source along arcs that have room and no days to spare, and tells whether it comes to the sink.
func (d *descent) search() bool {
	clear(d.reached)
	d.reached[source] = true
	for queue := []int{source}; len(queue) > 0; queue = queue[1:] {
		for _, place := range d.net.leaves[queue[0]] {
			a := d.net.arcs[place]
			if a.room > 0 && !d.reached[a.to] && d.lead(a) == 0 {
				d.reached[a.to], d.by[a.to] = true, place
				queue = append(queue, a.to)
			}
		}
	}
	return d.reached[sink]
}

// widen adds as much as can flow along the way by which the search came to the sink to the flow.
// One of the way's arcs is a normal one or goes backwards, because the sink is later than it can be without these: there is a limit.
func (d *descent) widen() {
	amount := unlimited
	for place := range d.way() {
		amount = min(amount, d.net.arcs[place].room)
	}
	for place := range d.way() {
		d.net.push(place, amount)
	}
}

// way gives out the places of the arcs by which the search came to the sink, the last one first.
func (d *descent) way() iter.Seq[int] {
	return func(yield func(int) bool) {
		for node := sink; node != source; {
			place := d.by[node]
			if !yield(place) {
				return
			}
			node = d.net.arcs[place].from
		}
	}
}

// lower moves all nodes to which the search did not come down until an arc leads the search further.
// There is such an arc: the sink can be reached by arcs that always have room. They also keep it from being earlier than it can be.
// The flow is worth most for all days over which the sink is moved.
func (d *descent) lower() {
	_, lead := greatest(d.leaving(), d.lead)
	for node, reached := range d.reached {
		if !reached {
			d.days[node] += lead
		}
	}
}

// leaving gives out the arcs that have room and lead away from the nodes to which the search came.
func (d *descent) leaving() iter.Seq[arc] {
	return func(yield func(arc) bool) {
		for _, a := range d.net.arcs {
			if a.room > 0 && d.reached[a.from] && !d.reached[a.to] && !yield(a) {
				return
			}
		}
	}
}

// lead returns by how many days an arc leads to a later day than that of its end: never more than 0 if it has room.
func (d *descent) lead(a arc) int {
	return d.days[a.from] + a.length - d.days[a.to]
}

// descend returns the network of a project with a flow that is worth most for a deadline.
func descend(tasks []api.Task, deadline int) (*network, api.Errno) {
	if err := checkDeadline(tasks, deadline); err != api.OK {
		return nil, err
	}
	if newTimes(tasks, crashDays(tasks)).finish() > deadline {
		return nil, api.ErrNone
	}
	d := newDescent(tasks)
	for d.day() > deadline {
		d.fill()
		d.lower()
	}
	return d.net, api.OK
}
