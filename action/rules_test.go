package action_test

import (
	"slices"
	"testing"

	"clavecin/action"
	"clavecin/api"
)

// TestArgumentsStay is rules R5 and R6: arguments stay as they are, and results are new memory.
func TestArgumentsStay(t *testing.T) {
	behind := []api.Tie{{A: -1, B: 0, Least: 3}, {A: 0, B: 1, Least: 2}, {A: 1, B: 0, Least: -1}, {A: 5, B: 5, Least: 5}}
	wasBehind := slices.Clone(behind)
	good, bad := behind[:2], behind[:3]
	for range 2 {
		x, err := action.Regulate(2, good)
		wantList(t, "Regulate", x, err, []int{3, 5}, api.OK)
		slack, err := action.Slack(2, good, x)
		wantList(t, "Slack", slack, err, []int{0, 0}, api.OK)
		wantList(t, "what Slack was given", x, err, []int{3, 5}, api.OK)
		high, err := action.Highest(2, good, 9)
		wantList(t, "Highest", high, err, []int{7, 9}, api.OK)
		clash, err := action.Clash(2, bad)
		wantInt(t, "the number of ties of Clash", len(clash), err, 2, api.OK)
		wantClash(t, regulation{2, bad})
		for _, list := range [][]int{x, slack, high, clash} { // must not matter to the second round
			clear(list[:cap(list)])
		}
		if !slices.Equal(behind, wasBehind) {
			t.Fatal("ties, or memory behind them, were changed")
		}
	}
}

// TestRegistersAreNotKept is rule R5 for machines.
func TestRegistersAreNotKept(t *testing.T) {
	behind := []api.Register{register(15, 12, 5), {Pluck: 9, Return: 8, Damp: 7}, register(1, 0, 0)}
	wasBehind := slices.Clone(behind)
	regs := behind[:2]
	acts := []api.Act{press(0, 20), on(1), off(0), ticks(1), off(1), on(0), ticks(1), press(0, 0), ticks(2)}
	wasActs := slices.Clone(acts)
	m := wantMachine(t, 1, 10, regs)
	want, err := action.Play(1, 10, regs, acts)
	if len(want) == 0 || err != api.OK || !slices.Equal(acts, wasActs) || !slices.Equal(behind, wasBehind) {
		t.Fatalf("Play: %v, error %d; or an argument was changed", want, err)
	}
	other := m.Clone()
	clear(regs) // must not matter to machines that were made before
	for _, machine := range []*action.Machine{m, other} {
		events := do(t, machine, acts...)
		wantList(t, "Do", events, api.OK, want, api.OK)
	}
	if !slices.Equal(regs, make([]api.Register, 2)) {
		t.Error("an act changed the registers that New was given")
	}
}

// TestEventsAreNotShared: events that a caller changes do not matter to the machine.
func TestEventsAreNotShared(t *testing.T) {
	acts := slices.Repeat([]api.Act{press(0, 20), ticks(2), press(0, 0), ticks(2), press(0, 20), ticks(2), off(0), press(0, 0), ticks(2), on(0)}, 5)
	regs := []api.Register{register(15, 12, 5), register(14, 3, 2)}
	m := wantMachine(t, 1, 10, regs)
	var all []api.Event
	for _, act := range acts {
		events, err := m.Do(act)
		if err != api.OK {
			t.Fatalf("Do: error %d", err)
		}
		all = append(all, events...)
		clear(events[:cap(events)])
	}
	events, err := action.Play(1, 10, regs, acts)
	wantList(t, "Play", events, err, all, api.OK)
	was := slices.Clone(events)
	wantInt(t, "Plucks", action.Plucks(events, 0, 0), api.OK, 10, api.OK)
	wantList(t, "what Plucks was given", events, api.OK, was, api.OK)
}

// TestNilAndEmpty is rule R4.
func TestNilAndEmpty(t *testing.T) {
	for _, ties := range [][]api.Tie{nil, {}} {
		x, err := action.Regulate(2, ties)
		wantList(t, "Regulate", x, err, []int{0, 0}, api.OK)
		x, err = action.Highest(2, ties, 8)
		wantList(t, "Highest", x, err, []int{8, 8}, api.OK)
		x, err = action.Clash(2, ties)
		wantList(t, "Clash", x, err, nil, api.ErrNone)
		x, err = action.Slack(2, ties, []int{4, 5})
		wantList(t, "Slack", x, err, nil, api.OK)
	}
	for _, x := range [][]int{nil, {}} {
		slack, err := action.Slack(1, nil, x)
		wantList(t, "Slack", slack, err, nil, api.ErrArg)
	}
	for _, acts := range [][]api.Act{nil, {}} {
		events, err := action.Play(1, 1, []api.Register{register(1, 0, 0)}, acts)
		wantList(t, "Play", events, err, nil, api.OK)
	}
	wantInt(t, "Plucks", action.Plucks([]api.Event{}, 0, 0), api.OK, 0, api.OK)
}

// TestAgain is rule R6: the same calls have the same results.
func TestAgain(t *testing.T) {
	r := newRand()
	for range 200 {
		g := anyRegulation(r, between(r, 1, 20), between(r, 1, 60), -5, 3)
		clash, err := action.Clash(g.n, g.ties)
		again, errAgain := action.Clash(g.n, slices.Clone(g.ties))
		wantList(t, "Clash", again, errAgain, clash, err)
	}
}
