package action

import "clavecin/api"

const maxActs = 1000 // of one play

// Play does acts on a new machine and returns all events.
func Play(keys, speed int, regs []api.Register, acts []api.Act) ([]api.Event, api.Errno) {
	m, err := New(keys, speed, regs)
	if err != api.OK {
		return nil, err
	}
	if len(acts) > maxActs {
		return nil, api.ErrLong
	}
	var all []api.Event
	for _, act := range acts {
		events, err := m.Do(act)
		if err != api.OK {
			return nil, err
		}
		all = append(all, events...)
	}
	return all, api.OK
}

// Plucks counts the plucks of a jack.
func Plucks(l []api.Event, key, reg int) int {
	count := 0
	for _, e := range l {
		if e.Kind == api.EventPluck && e.Key == key && e.Reg == reg {
			count++
		}
	}
	return count
}
