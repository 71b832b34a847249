package action_test

import (
	"math"
	"slices"
	"testing"
	"time"

	"clavecin/action"
	"clavecin/api"
)

// kit is what a machine is made from.
type kit struct {
	keys, speed int
	regs        []api.Register
}

func badKits() []kit {
	good := []api.Register{register(15, 12, 5)}
	list := []kit{{1, 10, nil}, {1, 10, []api.Register{}}, {1, 10, slices.Repeat(good, 5)}}
	for _, n := range []int{0, -1, 65, math.MinInt, math.MaxInt} {
		list = append(list, kit{n, 10, good})
	}
	for _, n := range []int{0, -1, 1001, math.MinInt, math.MaxInt} {
		list = append(list, kit{1, n, good})
	}
	for _, bad := range []api.Register{
		{}, register(15, 15, 5), register(15, 16, 5), register(15, 12, 13), register(15, 12, -1), register(15, -1, -1), register(0, 0, 0),
		register(1001, 12, 5), register(0, -1, -2), register(math.MaxInt, 1, 0), register(15, math.MinInt, 0), register(15, 12, math.MinInt),
		register(15, 12, math.MaxInt), register(15, math.MaxInt, 5), register(math.MinInt, 12, 5),
	} {
		list = append(list, kit{1, 10, []api.Register{bad}}, kit{1, 10, []api.Register{good[0], good[0], bad}}, kit{1, 10, []api.Register{bad, good[0]}})
	}
	return list
}

func TestNew(t *testing.T) {
	for _, k := range badKits() {
		m, err := action.New(k.keys, k.speed, k.regs)
		if m != nil || err != api.ErrArg {
			t.Errorf("New(%v): error %d", k, err)
		}
	}
	for _, k := range []kit{
		{1, 1, []api.Register{register(1, 0, 0)}},
		{64, 1000, []api.Register{register(1000, 999, 999), register(1000, 0, 0), register(7, 6, 6), {Pluck: 3, Return: 1}}},
	} {
		m := wantMachine(t, k.keys, k.speed, k.regs)
		want := state{}
		for i, reg := range k.regs {
			want.regsOn[i] = reg.On
		}
		if stateOf(t, m, k.keys, len(k.regs)) != want {
			t.Errorf("New(%v) is not at rest", k)
		}
	}
}

func TestBadActs(t *testing.T) {
	regs := []api.Register{register(15, 12, 5), {Pluck: 10, Return: 8, Damp: 8}}
	m := wantMachine(t, 3, 7, regs)
	do(t, m, press(1, 20), ticks(2), press(2, 11), ticks(1))
	was := stateOf(t, m, 3, 2)
	acts := []api.Act{{}, {Kind: 5}, {Kind: -1, Depth: 1}, {Kind: math.MinInt}, {Kind: math.MaxInt}}
	for _, n := range []int{-1, 3, math.MinInt, math.MaxInt} {
		acts = append(acts, press(n, 5))
	}
	for _, n := range []int{-1, 1001, math.MinInt, math.MaxInt} {
		acts = append(acts, press(0, n))
	}
	for _, n := range []int{-1, 10001, math.MinInt, math.MaxInt} {
		acts = append(acts, ticks(n))
	}
	for _, n := range []int{-1, 2, math.MinInt, math.MaxInt} {
		acts = append(acts, on(n), off(n))
	}
	for _, act := range acts {
		events, err := m.Do(act)
		wantList(t, "Do", events, err, nil, api.ErrArg)
		if stateOf(t, m, 3, 2) != was {
			t.Fatalf("Do(%v) changed the machine", act)
		}
	}
}

func TestBadPlaces(t *testing.T) {
	m := wantMachine(t, 3, 7, []api.Register{register(15, 12, 5), register(15, 12, 5)})
	do(t, m, press(1, 20), ticks(3))
	for _, n := range []int{-1, 3, math.MinInt, math.MaxInt} {
		height, target, err := m.Key(n)
		wantInt(t, "the height of Key", height, err, 0, api.ErrArg)
		wantInt(t, "the target of Key", target, err, 0, api.ErrArg)
		jack, err := m.Jack(n, 0)
		if jack != (api.Jackstate{}) || err != api.ErrArg {
			t.Errorf("Jack(%d, 0): %v, error %d", n, jack, err)
		}
	}
	for _, n := range []int{-1, 2, math.MinInt, math.MaxInt} {
		jack, err := m.Jack(1, n)
		if jack != (api.Jackstate{}) || err != api.ErrArg {
			t.Errorf("Jack(1, %d): %v, error %d", n, jack, err)
		}
		is, err := m.On(n)
		if is || err != api.ErrArg {
			t.Errorf("On(%d): %t, error %d", n, is, err)
		}
	}
}

// TestUnusedFields: an act's fields that its kind does not use may have any value.
func TestUnusedFields(t *testing.T) {
	m := wantMachine(t, 1, 10, []api.Register{register(15, 12, 5)})
	events := do(t, m, api.Act{Kind: api.ActKey, Depth: 20, Reg: -9}, api.Act{Kind: api.ActTicks, Key: 77, Depth: 2, Reg: math.MaxInt},
		api.Act{Kind: api.ActOff, Key: -1, Depth: -1}, api.Act{Kind: api.ActOn, Key: math.MinInt, Depth: 5000})
	wantList(t, "Do", events, api.OK, []api.Event{pluck(2, 0, 0)}, api.OK)
}

// TestNoMachine is rule R1: a nil machine, and one that New did not return.
func TestNoMachine(t *testing.T) {
	for _, m := range []*action.Machine{nil, {}, new(action.Machine)} {
		for _, act := range []api.Act{press(0, 1), ticks(1), ticks(-1), on(0), off(9), {}} {
			events, err := m.Do(act)
			wantList(t, "Do", events, err, nil, api.ErrState)
		}
		for _, n := range []int{0, -1, 99} {
			height, target, err := m.Key(n)
			wantInt(t, "the height of Key", height, err, 0, api.ErrState)
			wantInt(t, "the target of Key", target, err, 0, api.ErrState)
			jack, err := m.Jack(n, n)
			is, errOn := m.On(n)
			if jack != (api.Jackstate{}) || err != api.ErrState || is || errOn != api.ErrState {
				t.Errorf("Jack: %v, error %d; On: %t, error %d", jack, err, is, errOn)
			}
		}
		if m.Now() != 0 || m.Clone() != nil {
			t.Errorf("Now: %d, Clone: %v", m.Now(), m.Clone())
		}
	}
}

// scene is a play whose events are known.
type scene struct {
	name string
	kit
	acts []api.Act
	want []api.Event
}

func (s scene) test(t *testing.T) {
	t.Helper()
	events, err := action.Play(s.keys, s.speed, s.regs, s.acts)
	wantList(t, s.name, events, err, s.want, api.OK)
}

func TestKeys(t *testing.T) {
	one := kit{1, 10, []api.Register{register(15, 12, 5)}}
	slow := kit{1, 1, []api.Register{register(3, 2, 1)}}
	for _, s := range []scene{
		{"the document's example", one, []api.Act{press(0, 20), ticks(2), press(0, 0), ticks(2)}, []api.Event{pluck(2, 0, 0), comeBack(3, 0, 0), damp(4, 0, 0)}},
		{"nothing", one, nil, nil},
		{"no target", one, []api.Act{ticks(9)}, nil},
		{"no ticks", one, []api.Act{press(0, 20), ticks(0)}, nil},
		{"up to Pluck", one, []api.Act{press(0, 15), ticks(9)}, []api.Event{pluck(2, 0, 0)}},
		{"not up to Pluck", one, []api.Act{press(0, 14), ticks(9)}, nil},
		{"down to Return", one, []api.Act{press(0, 15), ticks(2), press(0, 12), ticks(2)}, []api.Event{pluck(2, 0, 0), comeBack(3, 0, 0)}},
		{"not down to Return", one, []api.Act{press(0, 15), ticks(2), press(0, 13), ticks(2), press(0, 20), ticks(2)}, []api.Event{pluck(2, 0, 0)}},
		{"down to Damp", one, []api.Act{press(0, 15), ticks(2), press(0, 5), ticks(2)}, []api.Event{pluck(2, 0, 0), comeBack(3, 0, 0), damp(3, 0, 0)}},
		{"not down to Damp", one, []api.Act{press(0, 15), ticks(2), press(0, 6), ticks(2)}, []api.Event{pluck(2, 0, 0), comeBack(3, 0, 0)}},
		{"plucked twice, not damped", one, []api.Act{press(0, 20), ticks(2), press(0, 6), ticks(2), press(0, 20), ticks(2), press(0, 0), ticks(2)},
			[]api.Event{pluck(2, 0, 0), comeBack(3, 0, 0), pluck(5, 0, 0), comeBack(7, 0, 0), damp(8, 0, 0)}},
		{"a target that changes on the way", one, []api.Act{press(0, 20), ticks(1), press(0, 0), ticks(1), press(0, 15), ticks(2)}, []api.Event{pluck(4, 0, 0)}},
		{"only the last target counts", one, []api.Act{press(0, 20), press(0, 3), ticks(5)}, nil},
		{"one by one", slow, []api.Act{press(0, 3), ticks(5), press(0, 0), ticks(5)}, []api.Event{pluck(3, 0, 0), comeBack(6, 0, 0), damp(7, 0, 0)}},
		{"down to 0", kit{1, 2, []api.Register{register(1, 0, 0)}}, []api.Act{press(0, 1), ticks(1), press(0, 0), ticks(1), press(0, 1), ticks(1)},
			[]api.Event{pluck(1, 0, 0), comeBack(2, 0, 0), damp(2, 0, 0), pluck(3, 0, 0)}},
		{"as high as can be", kit{1, 1000, []api.Register{register(1000, 999, 998)}}, []api.Act{press(0, 1000), ticks(1), press(0, 998), ticks(1)},
			[]api.Event{pluck(1, 0, 0), comeBack(2, 0, 0), damp(2, 0, 0)}},
		{"many ticks at rest", one, []api.Act{ticks(10000), press(0, 15), ticks(10000), press(0, 0), ticks(1)}, []api.Event{pluck(10002, 0, 0), comeBack(20001, 0, 0), damp(20001, 0, 0)}},
	} {
		s.test(t)
	}
}

// TestOrder: the events of a tick are ordered by the fractions of their keys' ways, then by key, by register and by kind.
func TestOrder(t *testing.T) {
	regs := []api.Register{register(15, 12, 5), register(10, 5, 5), register(15, 5, 0)}
	still := register(1000, 999, 0)
	for _, s := range []scene{
		{"by fraction", kit{2, 20, regs}, []api.Act{press(0, 20), press(1, 16), ticks(1), press(0, 0), press(1, 0), ticks(1)}, []api.Event{
			pluck(1, 0, 1), pluck(1, 1, 1), pluck(1, 0, 0), pluck(1, 0, 2), pluck(1, 1, 0), pluck(1, 1, 2), // 10/20, 10/16, 15/20, 15/16
			comeBack(2, 1, 0), comeBack(2, 0, 0), // 4/16, 8/20
			damp(2, 1, 0), comeBack(2, 1, 1), damp(2, 1, 1), comeBack(2, 1, 2), // 11/16
			damp(2, 0, 0), comeBack(2, 0, 1), damp(2, 0, 1), comeBack(2, 0, 2), // 15/20
			damp(2, 0, 2), damp(2, 1, 2),
		}},
		{"by key, then by register", kit{3, 10, []api.Register{register(6, 3, 3), register(6, 3, 3)}},
			[]api.Act{press(2, 6), press(0, 6), press(1, 6), ticks(1), press(1, 0), press(2, 0), press(0, 0), ticks(1)}, []api.Event{
				pluck(1, 0, 0), pluck(1, 0, 1), pluck(1, 1, 0), pluck(1, 1, 1), pluck(1, 2, 0), pluck(1, 2, 1),
				comeBack(2, 0, 0), damp(2, 0, 0), comeBack(2, 0, 1), damp(2, 0, 1), comeBack(2, 1, 0), damp(2, 1, 0),
				comeBack(2, 1, 1), damp(2, 1, 1), comeBack(2, 2, 0), damp(2, 2, 0), comeBack(2, 2, 1), damp(2, 2, 1),
			}},
		{"equal fractions of unequal ways", kit{2, 10, []api.Register{register(6, 3, 3)}}, // 6/9 and 4/6
			[]api.Act{press(1, 2), ticks(1), press(1, 8), press(0, 9), ticks(1)}, []api.Event{pluck(2, 0, 0), pluck(2, 1, 0)}},
		{"equal fractions, the longer way second", kit{2, 10, []api.Register{register(6, 3, 3)}},
			[]api.Act{press(0, 2), ticks(1), press(1, 9), press(0, 8), ticks(1)}, []api.Event{pluck(2, 0, 0), pluck(2, 1, 0)}},
		{"one third is after 333/1000", kit{2, 1000, []api.Register{{Pluck: 333, Return: 332}, still}},
			[]api.Act{press(0, 332), ticks(1), on(0), press(0, 335), press(1, 1000), ticks(1)}, []api.Event{pluck(2, 1, 0), pluck(2, 0, 0), pluck(2, 1, 1)}},
		{"one third is before 334/1000", kit{2, 1000, []api.Register{{Pluck: 334, Return: 332}, still}},
			[]api.Act{press(1, 333), ticks(1), on(0), press(1, 336), press(0, 1000), ticks(1)}, []api.Event{pluck(2, 1, 0), pluck(2, 0, 0), pluck(2, 0, 1)}},
		{"997/998 is before 998/999", kit{2, 1000, []api.Register{register(998, 997, 0)}}, // 0 to 999 and, from 1 on, to 999
			[]api.Act{press(1, 1), ticks(1), press(0, 999), press(1, 999), ticks(1)}, []api.Event{pluck(2, 1, 0), pluck(2, 0, 0)}},
		{"rising and falling", kit{2, 10, []api.Register{register(8, 2, 2)}},
			[]api.Act{press(1, 10), ticks(1), press(0, 10), press(1, 0), ticks(1)}, []api.Event{pluck(1, 1, 0), pluck(2, 0, 0), comeBack(2, 1, 0), damp(2, 1, 0)}},
	} {
		s.test(t)
	}
}

func TestRegisters(t *testing.T) {
	down := kit{1, 10, []api.Register{{Pluck: 15, Return: 12, Damp: 5}}} // a register that is off at first
	one := kit{1, 10, []api.Register{register(15, 12, 5)}}
	three := kit{3, 20, []api.Register{register(15, 12, 5), register(14, 3, 2)}}
	up := []api.Act{press(0, 20), ticks(2)}
	for _, s := range []scene{
		{"off: no events", down, []api.Act{press(0, 20), ticks(2), press(0, 0), ticks(2)}, nil},
		{"turned on below Return", down, []api.Act{on(0), press(0, 20), ticks(2)}, []api.Event{pluck(2, 0, 0)}},
		{"turned on at Pluck: it is above", down, []api.Act{press(0, 15), ticks(2), on(0), press(0, 20), ticks(1), press(0, 12), ticks(1)}, []api.Event{comeBack(4, 0, 0)}},
		{"turned on between Return and Pluck: it is not above", down, []api.Act{press(0, 14), ticks(2), on(0), press(0, 0), ticks(2), press(0, 20), ticks(2)}, []api.Event{pluck(6, 0, 0)}},
		{"turned on between Return and Pluck: it plucks", down, []api.Act{press(0, 14), ticks(2), on(0), press(0, 20), ticks(2)}, []api.Event{pluck(3, 0, 0)}},
		{"off while it rises again", one, append(slices.Clone(up), press(0, 6), ticks(2), off(0), press(0, 20), ticks(2), on(0), press(0, 0), ticks(2)),
			[]api.Event{pluck(2, 0, 0), comeBack(3, 0, 0), comeBack(7, 0, 0), damp(8, 0, 0)}},
		{"turned on at Damp: damped", one, append(slices.Clone(up), off(0), press(0, 5), ticks(2), on(0)), []api.Event{pluck(2, 0, 0), damp(4, 0, 0)}},
		{"turned on at 0: damped, not plucked", one, append(slices.Clone(up), off(0), press(0, 0), ticks(7), on(0), ticks(5), off(0), on(0)), []api.Event{pluck(2, 0, 0), damp(9, 0, 0)}},
		{"turned on above Damp: not damped", one, append(slices.Clone(up), off(0), press(0, 6), ticks(2), on(0)), []api.Event{pluck(2, 0, 0)}},
		{"turned on above Damp: damped later, no return", one, append(slices.Clone(up), off(0), press(0, 6), ticks(2), on(0), press(0, 0), ticks(1)), []api.Event{pluck(2, 0, 0), damp(5, 0, 0)}},
		{"turned on when it is on", one, append(slices.Clone(up), press(0, 13), ticks(1), on(0), press(0, 15), ticks(1), press(0, 12), ticks(1)), []api.Event{pluck(2, 0, 0), comeBack(5, 0, 0)}},
		{"turned off when it is off", down, append(slices.Clone(up), off(0), press(0, 0), ticks(2)), nil},
		{"off at the same height", one, append(slices.Clone(up), off(0), on(0), press(0, 0), ticks(2)), []api.Event{pluck(2, 0, 0), comeBack(3, 0, 0), damp(4, 0, 0)}},
		{"dampings by key, one register", three, []api.Act{press(2, 20), press(0, 16), press(1, 14), ticks(1), off(0), press(2, 4), press(1, 4), press(0, 4), ticks(1), on(0)},
			[]api.Event{pluck(1, 2, 1), pluck(1, 2, 0), pluck(1, 0, 1), pluck(1, 0, 0), pluck(1, 1, 1), damp(2, 0, 0), damp(2, 2, 0)}},
	} {
		s.test(t)
	}
}

// TestJack follows a jack and its string.
func TestJack(t *testing.T) {
	m := wantMachine(t, 2, 10, []api.Register{register(19, 18, 17), register(15, 12, 5)})
	for i, step := range []struct {
		act  api.Act
		want api.Jackstate
		now  int
	}{
		{press(1, 20), api.Jackstate{}, 0},
		{ticks(1), api.Jackstate{}, 1},
		{ticks(1), api.Jackstate{Above: true, Sounds: true, Since: 2}, 2},
		{ticks(3), api.Jackstate{Above: true, Sounds: true, Since: 2}, 5},
		{press(1, 6), api.Jackstate{Above: true, Sounds: true, Since: 2}, 5},
		{ticks(1), api.Jackstate{Sounds: true, Since: 2}, 6},
		{press(1, 20), api.Jackstate{Sounds: true, Since: 2}, 6},
		{ticks(10), api.Jackstate{Above: true, Sounds: true, Since: 7}, 16},
		{off(1), api.Jackstate{Above: true, Sounds: true, Since: 7}, 16},
		{press(1, 0), api.Jackstate{Above: true, Sounds: true, Since: 7}, 16},
		{ticks(10), api.Jackstate{Above: true, Sounds: true, Since: 7}, 26}, // its plectra stay as they are, its strings go on
		{on(1), api.Jackstate{Since: 7}, 26},
		{press(1, 15), api.Jackstate{Since: 7}, 26},
		{off(1), api.Jackstate{Since: 7}, 26},
		{ticks(10), api.Jackstate{Since: 7}, 36},
		{on(1), api.Jackstate{Above: true, Since: 7}, 36},
		{press(1, 0), api.Jackstate{Above: true, Since: 7}, 36},
		{ticks(10), api.Jackstate{Since: 7}, 46},
	} {
		do(t, m, step.act)
		jack, err := m.Jack(1, 1)
		if jack != step.want || err != api.OK || m.Now() != step.now {
			t.Errorf("step %d: %v, error %d, tick %d, want %v, tick %d", i, jack, err, m.Now(), step.want, step.now)
		}
		if other, err := m.Jack(0, 1); other != (api.Jackstate{}) || err != api.OK {
			t.Errorf("step %d: another jack is %v, error %d", i, other, err)
		}
	}
}

// TestKey follows a key and its target.
func TestKey(t *testing.T) {
	m := wantMachine(t, 2, 300, []api.Register{register(15, 12, 5)})
	for i, step := range []struct {
		act            api.Act
		height, target int
	}{
		{press(1, 1000), 0, 1000}, {ticks(1), 300, 1000}, {ticks(2), 900, 1000}, {ticks(1), 1000, 1000}, {ticks(1), 1000, 1000},
		{press(1, 1), 1000, 1}, {ticks(3), 100, 1}, {press(1, 99), 100, 99}, {press(0, 500), 100, 99}, {ticks(1), 99, 99},
		{press(1, 0), 99, 0}, {off(0), 99, 0}, {ticks(1), 0, 0}, {on(0), 0, 0}, {ticks(10000), 0, 0},
	} {
		do(t, m, step.act)
		height, target, err := m.Key(1)
		wantInt(t, "the height of Key", height, err, step.height, api.OK)
		wantInt(t, "the target of Key", target, err, step.target, api.OK)
		if t.Failed() {
			t.Fatalf("step %d", i)
		}
	}
	height, target, err := m.Key(0)
	wantInt(t, "the height of Key", height, err, 500, api.OK)
	wantInt(t, "the target of Key", target, err, 500, api.OK)
}

// TestModel compares random plays with a second machine, act by act.
func TestModel(t *testing.T) {
	r := newRand()
	kinds := map[int]int{}
	for i := range 600 {
		top := []int{4, 12, 40, 1000}[i%4]
		k := kit{between(r, 1, []int{2, 6, 64}[i%3]), between(r, 1, top), anyRegs(r, top)}
		m, second := wantMachine(t, k.keys, k.speed, k.regs), newModel(k.keys, k.speed, k.regs)
		for range 80 {
			act := anyAct(r, k.keys, len(k.regs), top)
			events, err := m.Do(act)
			want := second.do(act)
			if err != api.OK || !slices.Equal(events, want) {
				t.Fatalf("%v: Do(%v): %v, error %d, want %v", k, act, events, err, want)
			}
			if got := stateOf(t, m, k.keys, len(k.regs)); got != second.state {
				t.Fatalf("%v: Do(%v): %v, want %v", k, act, got, second.state)
			}
			for _, e := range events {
				kinds[e.Kind]++
			}
		}
	}
	if kinds[api.EventPluck] < 1000 || kinds[api.EventReturn] < 1000 || kinds[api.EventDamp] < 1000 {
		t.Errorf("few events: %v", kinds)
	}
}

// TestClone: a clone goes its own way.
func TestClone(t *testing.T) {
	r := newRand()
	for range 200 {
		k := kit{between(r, 1, 5), between(r, 1, 8), anyRegs(r, 12)}
		m := wantMachine(t, k.keys, k.speed, k.regs)
		for range 40 {
			do(t, m, anyAct(r, k.keys, len(k.regs), 12))
		}
		was := stateOf(t, m, k.keys, len(k.regs))
		other := m.Clone()
		if other == m || stateOf(t, other, k.keys, len(k.regs)) != was {
			t.Fatal("Clone is not in the same state")
		}
		var acts []api.Act
		for range 40 {
			acts = append(acts, anyAct(r, k.keys, len(k.regs), 12))
		}
		events := do(t, other, acts...)
		if stateOf(t, m, k.keys, len(k.regs)) != was {
			t.Fatal("a clone's act changed the machine")
		}
		end := stateOf(t, other, k.keys, len(k.regs))
		if !slices.Equal(do(t, m, acts...), events) || stateOf(t, m, k.keys, len(k.regs)) != end {
			t.Fatal("the machine does not do what its clone did")
		}
		do(t, m, on(0), press(0, 12), ticks(20), press(0, 0), ticks(20), off(0))
		if stateOf(t, other, k.keys, len(k.regs)) != end {
			t.Fatal("the machine's act changed its clone")
		}
	}
}

// TestGreatest: the greatest machine plays quickly, moving and at rest.
func TestGreatest(t *testing.T) {
	regs := slices.Repeat([]api.Register{register(1000, 500, 0)}, 4)
	var acts []api.Act
	for i := range 7 {
		for key := range 64 {
			acts = append(acts, press(key, 1000*(1-i%2)))
		}
		acts = append(acts, ticks(10000))
	}
	for len(acts) < 1000 {
		acts = append(acts, ticks(10000))
	}
	start := time.Now()
	events, err := action.Play(64, 1, regs, acts)
	if took := time.Since(start); took > 2*time.Second {
		t.Errorf("Play took %v", took)
	}
	if err != api.OK || len(events) != 64*4*(4+3+3) {
		t.Errorf("Play: %d events, error %d", len(events), err)
	}
}
