package action_test

import (
	"math/big"
	"math/rand"
	"slices"
	"testing"

	"clavecin/action"
	"clavecin/api"
)

// The signatures that the document lists.
var (
	_ func(int, []api.Tie) ([]int, api.Errno)                            = action.Regulate
	_ func(int, []api.Tie) ([]int, api.Errno)                            = action.Clash
	_ func(int, []api.Tie, []int) ([]int, api.Errno)                     = action.Slack
	_ func(int, []api.Tie, int) ([]int, api.Errno)                       = action.Highest
	_ func(int, int, []api.Register) (*action.Machine, api.Errno)        = action.New
	_ func(*action.Machine, api.Act) ([]api.Event, api.Errno)            = (*action.Machine).Do
	_ func(*action.Machine, int) (int, int, api.Errno)                   = (*action.Machine).Key
	_ func(*action.Machine, int, int) (api.Jackstate, api.Errno)         = (*action.Machine).Jack
	_ func(*action.Machine) int                                          = (*action.Machine).Now
	_ func(*action.Machine, int) (bool, api.Errno)                       = (*action.Machine).On
	_ func(*action.Machine) *action.Machine                              = (*action.Machine).Clone
	_ func(int, int, []api.Register, []api.Act) ([]api.Event, api.Errno) = action.Play
	_ func([]api.Event, int, int) int                                    = action.Plucks
)

func newRand() *rand.Rand { return rand.New(rand.NewSource(1)) }

// between returns a random number from low to high.
func between(r *rand.Rand, low, high int) int { return low + r.Intn(high-low+1) }

// wantInt tests a number and its error against those that are right.
func wantInt(t *testing.T, name string, got int, err api.Errno, want int, wantErr api.Errno) {
	t.Helper()
	if got != want || err != wantErr {
		t.Errorf("%s: %d, error %d, want %d, error %d", name, got, err, want, wantErr)
	}
}

// wantList tests a list and its error against those that are right.
func wantList[T comparable](t *testing.T, name string, got []T, err api.Errno, want []T, wantErr api.Errno) {
	t.Helper()
	if !slices.Equal(got, want) || err != wantErr {
		t.Errorf("%s: %v, error %d, want %v, error %d", name, got, err, want, wantErr)
	}
}

// Short names of acts and events.

func press(key, depth int) api.Act { return api.Act{Kind: api.ActKey, Key: key, Depth: depth} }
func ticks(n int) api.Act          { return api.Act{Kind: api.ActTicks, Depth: n} }
func on(reg int) api.Act           { return api.Act{Kind: api.ActOn, Reg: reg} }
func off(reg int) api.Act          { return api.Act{Kind: api.ActOff, Reg: reg} }

func pluck(tick, key, reg int) api.Event {
	return api.Event{Tick: tick, Kind: api.EventPluck, Key: key, Reg: reg}
}
func comeBack(tick, key, reg int) api.Event {
	return api.Event{Tick: tick, Kind: api.EventReturn, Key: key, Reg: reg}
}
func damp(tick, key, reg int) api.Event {
	return api.Event{Tick: tick, Kind: api.EventDamp, Key: key, Reg: reg}
}

// register returns a register that is on.
func register(pluck, back, damp int) api.Register {
	return api.Register{Pluck: pluck, Return: back, Damp: damp, On: true}
}

// anyRegs returns registers whose Plucks are not above a height.
func anyRegs(r *rand.Rand, top int) []api.Register {
	regs := make([]api.Register, between(r, 1, api.MaxRegs))
	for i := range regs {
		pluck := between(r, 1, top)
		back := between(r, 0, pluck-1)
		regs[i] = api.Register{Pluck: pluck, Return: back, Damp: between(r, 0, back), On: r.Intn(4) > 0}
	}
	return regs
}

// anyAct returns an act that is not an error.
func anyAct(r *rand.Rand, keys, regs, top int) api.Act {
	switch n := r.Intn(12); {
	case n < 5:
		return press(r.Intn(keys), between(r, 0, top))
	case n < 6:
		return press(r.Intn(keys), []int{0, top}[r.Intn(2)])
	case n < 10:
		return ticks(between(r, 0, []int{1, 2, 5, 20}[r.Intn(4)]))
	case n < 11:
		return on(r.Intn(regs))
	}
	return off(r.Intn(regs))
}

// wantMachine returns a new machine.
func wantMachine(t *testing.T, keys, speed int, regs []api.Register) *action.Machine {
	t.Helper()
	m, err := action.New(keys, speed, regs)
	if m == nil || err != api.OK {
		t.Fatalf("New(%d, %d, %v): error %d", keys, speed, regs, err)
	}
	return m
}

// do does acts and returns their events.
func do(t *testing.T, m *action.Machine, acts ...api.Act) []api.Event {
	t.Helper()
	var all []api.Event
	for _, act := range acts {
		events, err := m.Do(act)
		if err != api.OK {
			t.Fatalf("Do(%v): error %d", act, err)
		}
		all = append(all, events...)
	}
	return all
}

// state is all that a machine tells.
type state struct {
	now    int
	ways   [api.MaxKeys][2]int
	regsOn [api.MaxRegs]bool
	jacks  [api.MaxKeys][api.MaxRegs]api.Jackstate
}

// stateOf returns the state of a machine of so many keys and registers.
func stateOf(t *testing.T, m *action.Machine, keys, regs int) state {
	t.Helper()
	s := state{now: m.Now()}
	var err api.Errno
	for reg := range regs {
		if s.regsOn[reg], err = m.On(reg); err != api.OK {
			t.Fatalf("On(%d): error %d", reg, err)
		}
	}
	for key := range keys {
		if s.ways[key][0], s.ways[key][1], err = m.Key(key); err != api.OK {
			t.Fatalf("Key(%d): error %d", key, err)
		}
		for reg := range regs {
			if s.jacks[key][reg], err = m.Jack(key, reg); err != api.OK {
				t.Fatalf("Jack(%d, %d): error %d", key, reg, err)
			}
		}
	}
	return s
}

// model is a second machine: its keys move from one height to the next one, and its events have times of any precision.
type model struct {
	keys, speed int
	regs        []api.Register
	state       state
}

func newModel(keys, speed int, regs []api.Register) *model {
	m := &model{keys: keys, speed: speed, regs: slices.Clone(regs)}
	for i, reg := range regs {
		m.state.regsOn[i] = reg.On
	}
	return m
}

func (m *model) do(a api.Act) []api.Event {
	var events []api.Event
	switch a.Kind {
	case api.ActKey:
		m.state.ways[a.Key][1] = a.Depth
	case api.ActTicks:
		for range a.Depth {
			events = append(events, m.tick()...)
		}
	case api.ActOff:
		m.state.regsOn[a.Reg] = false
	case api.ActOn:
		if m.state.regsOn[a.Reg] {
			break
		}
		m.state.regsOn[a.Reg] = true
		for key := range m.keys {
			height, jack := m.state.ways[key][0], &m.state.jacks[key][a.Reg]
			jack.Above = height >= m.regs[a.Reg].Pluck
			if height <= m.regs[a.Reg].Damp && jack.Sounds {
				jack.Sounds = false
				events = append(events, damp(m.state.now, key, a.Reg))
			}
		}
	}
	return events
}

// timed is an event with its time within a tick.
type timed struct {
	event api.Event
	at    *big.Rat
}

func (m *model) tick() []api.Event {
	m.state.now++
	var list []timed
	for key := range m.keys {
		way := &m.state.ways[key]
		step, count := 1, way[1]-way[0]
		if count < 0 {
			step, count = -1, -count
		}
		count = min(count, m.speed)
		for i := range count {
			way[0] += step
			for _, e := range m.arrive(key, way[0], step > 0) {
				list = append(list, timed{e, big.NewRat(int64(i+1), int64(count))})
			}
		}
	}
	slices.SortFunc(list, func(a, b timed) int {
		if n := a.at.Cmp(b.at); n != 0 {
			return n
		}
		if a.event.Key != b.event.Key {
			return a.event.Key - b.event.Key
		}
		if a.event.Reg != b.event.Reg {
			return a.event.Reg - b.event.Reg
		}
		return a.event.Kind - b.event.Kind // a return has a lesser number than a damping
	})
	var events []api.Event
	for _, e := range list {
		events = append(events, e.event)
	}
	return events
}

// arrive lets a key come to a height that is next to the one where it was.
func (m *model) arrive(key, height int, rising bool) []api.Event {
	var events []api.Event
	for i, reg := range m.regs {
		jack := &m.state.jacks[key][i]
		if !m.state.regsOn[i] {
			continue
		}
		if rising && height == reg.Pluck && !jack.Above {
			jack.Above, jack.Sounds, jack.Since = true, true, m.state.now
			events = append(events, pluck(m.state.now, key, i))
		}
		if !rising && height == reg.Return && jack.Above {
			jack.Above = false
			events = append(events, comeBack(m.state.now, key, i))
		}
		if !rising && height == reg.Damp && jack.Sounds {
			jack.Sounds = false
			events = append(events, damp(m.state.now, key, i))
		}
	}
	return events
}
