package action

import (
	"slices"

	"clavecin/api"
)

const maxTicks = 10000 // of one act

// clock counts ticks.
type clock struct {
	tick int
}

// lever is a key with its jacks and strings.
type lever struct {
	height, target int
	jacks          [api.MaxRegs]api.Jackstate
}

// Machine is an action that is played.
type Machine struct {
	clock
	speed  int
	levers []lever
	regs   []api.Register // On says whether the register is on now
}

// New returns a machine at rest.
func New(keys, speed int, regs []api.Register) (*Machine, api.Errno) {
	valid := within(keys, 1, api.MaxKeys) && within(speed, 1, api.MaxDip) &&
		within(len(regs), 1, api.MaxRegs) && areRegisters(regs)
	if !valid {
		return nil, api.ErrArg
	}
	return &Machine{speed: speed, levers: make([]lever, keys), regs: slices.Clone(regs)}, api.OK
}

func areRegisters(regs []api.Register) bool {
	for _, r := range regs {
		if r.Damp < 0 || r.Return < r.Damp || r.Pluck <= r.Return || r.Pluck > api.MaxDip {
			return false
		}
	}
	return true
}

// isMade tells whether New returned the machine.
func (m *Machine) isMade() bool { return m != nil && len(m.levers) > 0 }

func (m *Machine) hasKey(key int) bool { return within(key, 0, len(m.levers)-1) }

func (m *Machine) hasReg(reg int) bool { return within(reg, 0, len(m.regs)-1) }

// Do does an act and returns its events.
func (m *Machine) Do(a api.Act) ([]api.Event, api.Errno) {
	if !m.isMade() {
		return nil, api.ErrState
	}
	switch {
	case a.Kind == api.ActKey && m.hasKey(a.Key) && within(a.Depth, 0, api.MaxDip):
		m.levers[a.Key].target = a.Depth
		return nil, api.OK
	case a.Kind == api.ActTicks && within(a.Depth, 0, maxTicks):
		return m.run(a.Depth), api.OK
	case a.Kind == api.ActOn && m.hasReg(a.Reg):
		return m.turnOn(a.Reg), api.OK
	case a.Kind == api.ActOff && m.hasReg(a.Reg):
		m.regs[a.Reg].On = false
		return nil, api.OK
	}
	return nil, api.ErrArg
}

// turnOn turns a register on and returns the events of its strings.
func (m *Machine) turnOn(number int) []api.Event {
	reg := &m.regs[number]
	if reg.On {
		return nil
	}
	reg.On = true
	var events []api.Event
	for key := range m.levers {
		l := &m.levers[key]
		jack := &l.jacks[number]
		jack.Above = l.height >= reg.Pluck
		if l.height <= reg.Damp && jack.Sounds {
			jack.Sounds = false
			events = append(events, api.Event{Tick: m.tick, Kind: api.EventDamp, Key: key, Reg: number})
		}
	}
	return events
}

// Key returns a key's height and target.
func (m *Machine) Key(key int) (int, int, api.Errno) {
	if !m.isMade() {
		return 0, 0, api.ErrState
	}
	if !m.hasKey(key) {
		return 0, 0, api.ErrArg
	}
	return m.levers[key].height, m.levers[key].target, api.OK
}

// Jack returns the state of a jack and its string.
func (m *Machine) Jack(key, reg int) (api.Jackstate, api.Errno) {
	if !m.isMade() {
		return api.Jackstate{}, api.ErrState
	}
	if !m.hasKey(key) || !m.hasReg(reg) {
		return api.Jackstate{}, api.ErrArg
	}
	return m.levers[key].jacks[reg], api.OK
}

// Now returns how many ticks were done.
func (m *Machine) Now() int {
	if !m.isMade() {
		return 0
	}
	return m.tick
}

// On tells whether a register is on.
func (m *Machine) On(reg int) (bool, api.Errno) {
	if !m.isMade() {
		return false, api.ErrState
	}
	if !m.hasReg(reg) {
		return false, api.ErrArg
	}
	return m.regs[reg].On, api.OK
}

// Clone returns a machine in the same state.
func (m *Machine) Clone() *Machine {
	if !m.isMade() {
		return nil
	}
	return &Machine{clock: m.clock, speed: m.speed, levers: slices.Clone(m.levers), regs: slices.Clone(m.regs)}
}
