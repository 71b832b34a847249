package plan

import "clavecin/api"

// maxFlow is the greatest number of a flow.
const maxFlow = 1000000000

// Proof returns a flow that proves the least cost.
func Proof(tasks []api.Task, deadline int) (api.Flow, api.Errno) {
	net, err := descend(tasks, deadline)
	if err != api.OK {
		return api.Flow{}, err
	}
	return net.flow(), api.OK
}

// Worth returns what a flow proves.
func Worth(tasks []api.Task, deadline int, f api.Flow) (int, api.Errno) {
	if err := checkDeadline(tasks, deadline); err != api.OK {
		return 0, err
	}
	net := newNetwork(tasks)
	if !net.take(f) {
		return 0, api.ErrForm
	}
	return net.worth(deadline), api.OK
}
