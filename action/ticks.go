package action

import (
	"cmp"
	"slices"

	"clavecin/api"
)

// moment is an event at the fraction done/way of the way of its key in a tick.
type moment struct {
	event     api.Event
	done, way int
}

// run does ticks and returns their events.
func (m *Machine) run(ticks int) []api.Event {
	var events []api.Event
	for done := range ticks {
		if m.isAtRest() {
			m.tick += ticks - done
			break
		}
		events = append(events, m.runTick()...)
	}
	return events
}

// isAtRest tells whether every key is where it goes to.
func (m *Machine) isAtRest() bool {
	return !slices.ContainsFunc(m.levers, func(l lever) bool { return l.height != l.target })
}

// runTick does one tick and returns its events.
func (m *Machine) runTick() []api.Event {
	m.tick++
	var moments []moment
	for key := range m.levers {
		l := &m.levers[key]
		from := l.height
		l.height = from + max(-m.speed, min(m.speed, l.target-from))
		for number, reg := range m.regs {
			note := func(kind, height int) {
				event := api.Event{Tick: m.tick, Kind: kind, Key: key, Reg: number}
				moments = append(moments, moment{event, distance(from, height), distance(from, l.height)})
			}
			if reg.On {
				m.pass(&l.jacks[number], reg, from, l.height, note)
			}
		}
	}
	return inOrder(moments)
}

// pass changes a jack whose key moves from a height to another one, and notes what happens at which height.
func (m *Machine) pass(jack *api.Jackstate, reg api.Register, from, to int, note func(kind, height int)) {
	if from < reg.Pluck && reg.Pluck <= to && !jack.Above {
		*jack = api.Jackstate{Above: true, Sounds: true, Since: m.tick}
		note(api.EventPluck, reg.Pluck)
	}
	if from > reg.Return && reg.Return >= to && jack.Above {
		jack.Above = false
		note(api.EventReturn, reg.Return)
	}
	if from > reg.Damp && reg.Damp >= to && jack.Sounds {
		jack.Sounds = false
		note(api.EventDamp, reg.Damp)
	}
}

func distance(a, b int) int {
	return max(a-b, b-a)
}

// inOrder returns the events of one tick in their order.
func inOrder(moments []moment) []api.Event {
	// They were noted key by key, register by register, returns before dampings: those of equal fractions stay so.
	slices.SortStableFunc(moments, func(a, b moment) int { return cmp.Compare(a.done*b.way, b.done*a.way) })
	events := make([]api.Event, len(moments))
	for i, m := range moments {
		events[i] = m.event
	}
	return events
}
