package action_test

import (
	"slices"
	"testing"

	"clavecin/action"
	"clavecin/api"
)

func TestPlay(t *testing.T) {
	r := newRand()
	for range 300 {
		k := kit{between(r, 1, 6), between(r, 1, 9), anyRegs(r, 12)}
		m := wantMachine(t, k.keys, k.speed, k.regs)
		acts := make([]api.Act, between(r, 0, 60))
		for i := range acts {
			acts[i] = anyAct(r, k.keys, len(k.regs), 12)
		}
		events, err := action.Play(k.keys, k.speed, k.regs, acts)
		wantList(t, "Play", events, err, do(t, m, acts...), api.OK)
		if len(acts) == 0 {
			continue
		}
		acts[r.Intn(len(acts))] = []api.Act{{}, press(k.keys, 1), ticks(10001), on(len(k.regs)), off(-1)}[r.Intn(5)]
		events, err = action.Play(k.keys, k.speed, k.regs, acts)
		wantList(t, "Play with a bad act", events, err, nil, api.ErrArg)
	}
}

func TestBadPlays(t *testing.T) {
	long := slices.Repeat([]api.Act{press(0, 20), ticks(2), press(0, 0), ticks(2)}, 251)
	regs := []api.Register{register(15, 12, 5)}
	for _, k := range badKits() {
		for _, acts := range [][]api.Act{nil, {ticks(1)}, {{}}, long} {
			events, err := action.Play(k.keys, k.speed, k.regs, acts)
			wantList(t, "Play of a bad machine", events, err, nil, api.ErrArg)
		}
	}
	events, err := action.Play(1, 10, regs, long[:1000])
	wantInt(t, "Play of 1000 acts", len(events), err, 750, api.OK)
	events, err = action.Play(1, 10, regs, long[:1001])
	wantList(t, "Play of 1001 acts", events, err, nil, api.ErrLong)
	events, err = action.Play(1, 10, regs, slices.Repeat([]api.Act{{}}, 1001)) // ErrLong comes before the first act's error
	wantList(t, "Play of 1001 bad acts", events, err, nil, api.ErrLong)
	events, err = action.Play(1, 10, regs, append(slices.Clone(long[:999]), ticks(-1)))
	wantList(t, "Play of a bad last act", events, err, nil, api.ErrArg)
}

func TestPlucks(t *testing.T) {
	events := []api.Event{pluck(1, 0, 0), comeBack(2, 0, 0), damp(2, 0, 0), pluck(3, 0, 1), pluck(3, 1, 0), pluck(4, 0, 0), {Tick: 5, Kind: 9}, {Tick: 5}}
	for _, c := range []struct{ key, reg, want int }{{0, 0, 2}, {0, 1, 1}, {1, 0, 1}, {1, 1, 0}, {-1, 0, 0}, {64, 4, 0}} {
		wantInt(t, "Plucks", action.Plucks(events, c.key, c.reg), api.OK, c.want, api.OK)
	}
	wantInt(t, "Plucks of nothing", action.Plucks(nil, 0, 0), api.OK, 0, api.OK)
	odd := []api.Event{{Kind: api.EventPluck, Key: -7, Reg: -8}} // no machine has this key, but it is counted all the same
	wantInt(t, "Plucks of a strange key", action.Plucks(odd, -7, -8), api.OK, 1, api.OK)
}

// TestOnePluck is promises A3, A4 and P5, by the events of random plays.
func TestOnePluck(t *testing.T) {
	r := newRand()
	for range 300 {
		k := kit{between(r, 1, 4), between(r, 1, 9), anyRegs(r, 12)}
		m := wantMachine(t, k.keys, k.speed, k.regs)
		var plucked, sounds [4][4]bool // of each key and register: plucked since the last return, or since it was turned on
		for range 100 {
			act := anyAct(r, k.keys, len(k.regs), 12)
			if act.Kind == api.ActOff || act.Kind == api.ActOn {
				for key := range plucked {
					plucked[key][act.Reg] = plucked[key][act.Reg] && act.Kind == api.ActOn
				}
			}
			for _, e := range do(t, m, act) {
				switch e.Kind {
				case api.EventPluck:
					if plucked[e.Key][e.Reg] {
						t.Fatalf("%v: a second pluck without a return: %v", k, e)
					}
					plucked[e.Key][e.Reg], sounds[e.Key][e.Reg] = true, true
				case api.EventReturn:
					plucked[e.Key][e.Reg] = false
				case api.EventDamp:
					sounds[e.Key][e.Reg] = false
				}
			}
			for key := range k.keys {
				for reg := range k.regs {
					jack, err := m.Jack(key, reg)
					if err != api.OK || jack.Sounds != sounds[key][reg] {
						t.Fatalf("%v: the string of key %d and register %d: %v", k, key, reg, jack)
					}
				}
			}
		}
	}
}

// TestStroke is promises A5 and A6: a key goes up once and down again.
func TestStroke(t *testing.T) {
	r := newRand()
	for range 2000 {
		top := []int{5, 30, 1000}[r.Intn(3)]
		k := kit{between(r, 1, 3), between(r, 1, top), anyRegs(r, top)}
		m := wantMachine(t, k.keys, k.speed, k.regs)
		do(t, m, ticks(between(r, 0, 3)))
		key, high := r.Intn(k.keys), between(r, 0, top)
		var events []api.Event
		for _, depth := range []int{high, 0} {
			events = append(events, do(t, m, press(key, between(r, 0, high)))...) // a target that is not waited for
			events = append(events, do(t, m, press(key, depth), ticks(between(r, 1, 10)), ticks(1000))...)
		}
		last := 0
		for _, e := range events {
			if e.Kind == api.EventPluck {
				if k.regs[e.Reg].Pluck < last {
					t.Fatalf("%v: %v does not come by rising Pluck", k, events)
				}
				last = k.regs[e.Reg].Pluck
			}
		}
		for i, reg := range k.regs {
			want := 0
			if reg.On && reg.Pluck <= high {
				want = 1
			}
			wantInt(t, "Plucks", action.Plucks(events, key, i), api.OK, want, api.OK)
			jack, err := m.Jack(key, i)
			if jack.Above || jack.Sounds || err != api.OK {
				t.Fatalf("%v: register %d after a stroke: %v", k, i, jack)
			}
		}
		if t.Failed() {
			t.Fatalf("%v: key %d to %d: %v", k, key, high, events)
		}
	}
}

// TestTicks is promise A7.
func TestTicks(t *testing.T) {
	r := newRand()
	for range 500 {
		k := kit{between(r, 1, 5), between(r, 1, 8), anyRegs(r, 30)}
		m := wantMachine(t, k.keys, k.speed, k.regs)
		for range 20 {
			do(t, m, anyAct(r, k.keys, len(k.regs), 30))
		}
		other := m.Clone()
		a, b := between(r, 0, 12), between(r, 0, 12)
		wantList(t, "Do", do(t, m, ticks(a), ticks(b)), api.OK, do(t, other, ticks(a+b)), api.OK)
		if stateOf(t, m, k.keys, len(k.regs)) != stateOf(t, other, k.keys, len(k.regs)) {
			t.Fatalf("%v: %d ticks and %d ticks are not %d ticks", k, a, b, a+b)
		}
	}
}
