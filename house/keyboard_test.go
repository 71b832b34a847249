package house_test

import (
	"fmt"
	"testing"

	"clavecin/action"
	"clavecin/api"
	"clavecin/house"
	"clavecin/match"
)

func TestVoice(t *testing.T) {
	wantTalk(t, house.New(), `
> voice 2 3
! 1
> jack 5 2
> jack 3 0
> quill 3 2
> voice 2 3
! 1
> quill 6 4
> quill 5 1
> voice 2 3
quills 0 2
cut 0 1
cost 11
> voice 0 0
quills 0 1
cut 0 4
cost 0
> voice 101 0
! 1
> voice 0 -1
! 1
> jack 1 4
> voice 2 3
quills 0 2 1
cut 0 1 0
cost 21
> jack 1 4
> voice 2 3
! 1
> quill 0 3
> voice 2 3
! 6
most 3
> quill 0 4
> voice 2 3
quills 0 2 1 4
cut 0 1 0 0
cost 23
> jack 10001 0
> voice 2 3
! 1
> clear jacks
> jack 1 9
> quill 1 8
> voice 1 1
! 6
most 0
> voice 1 101
! 1
`)
}

// TestAnyVoice compares with package match.
func TestAnyVoice(t *testing.T) {
	r := newRand()
	for range 200 {
		h := house.New()
		var jacks []api.Jack
		var quills []api.Quill
		for range r.Intn(6) {
			jacks = append(jacks, api.Jack{Want: between(r, 0, 20), Reach: between(r, 0, 9)})
			wantSilent(t, h, fmt.Sprintf("jack %d %d", jacks[len(jacks)-1].Want, jacks[len(jacks)-1].Reach))
		}
		for range r.Intn(9) {
			quills = append(quills, api.Quill{Stiff: between(r, 0, 20), Length: between(r, 0, 12)})
			wantSilent(t, h, fmt.Sprintf("quill %d %d", quills[len(quills)-1].Stiff, quills[len(quills)-1].Length))
		}
		bend, trim := between(r, 0, 100), between(r, 0, 100)
		line := fmt.Sprintf("voice %d %d", bend, trim)
		to, offs, cost, err := match.Voice(jacks, quills, bend, trim)
		switch err {
		case api.OK:
			wantReply(t, h, line, fmt.Sprintf("quills%s\ncut%s\ncost %d\n", words(to), words(offs), cost))
		case api.ErrNone:
			table, _ := match.Table(jacks, quills, bend, trim)
			most, _ := match.Most(table)
			wantReply(t, h, line, fmt.Sprintf("! 6\nmost %d\n", most))
		default:
			wantFailure(t, h, err, line)
		}
	}
}

func TestRegulate(t *testing.T) {
	wantTalk(t, house.New(), `
> regulate 2
heights 0 0
> regulate 0
! 1
> regulate 65
! 1
> tie -1 0 3
> tie 0 1 2
> regulate 2
heights 3 5
> regulate 1
! 1
> regulate 3
heights 3 5 0
> tie 1 0 -1
> regulate 2
! 6
> clear ties
> tie 1 -1 -4
> regulate 2
heights 0 0
> tie 0 1 4
> regulate 2
heights 0 4
> tie 0 1 5
> regulate 2
! 6
> clear ties
> tie -1 0 1000001
> regulate 1
! 1
`)
}

func TestAction(t *testing.T) {
	h := house.New()
	wantFailure(t, h, api.ErrState, "key 0 1", "key -1 9999", "ticks 1", "ticks -1", "on 0", "off 0", "on 9", "state 0 0", "state -1 9")
	wantTalk(t, h, `
> action 1 10
! 1
> register 15 12 5 on
> register 18 4 4 off
> action 0 10
! 1
> action 65 10
! 1
> action 2 0
! 1
> action 2 10
> state 0 0
state above no sounds no since 0
> key 1 20
> ticks 2
pluck 2 1 0
> state 1 0
state above yes sounds yes since 2
> state 1 1
state above no sounds no since 0
> on 1
> state 1 1
state above yes sounds no since 0
> key 1 0
> key 0 1000
> ticks 1
return 3 1 0
> ticks 10000
pluck 4 0 0
damp 4 1 0
return 4 1 1
pluck 4 0 1
> ticks 10001
! 1
> ticks 0
> state 0 1
state above yes sounds yes since 4
> off 1
> key 0 0
> ticks 200
return 10102 0 0
damp 10103 0 0
> on 1
damp 10203 0 1
> on 1
> state 0 1
state above no sounds no since 4
`)
	wantFailure(t, h, api.ErrArg, "key 2 0", "key -1 0", "key 0 1001", "key 0 -1", "ticks -1", "on 2", "on -1", "off 2", "off -1", "state 2 0", "state 0 2", "state -1 0", "state 0 -1", "action 2 1001")
	wantReply(t, h, "state 0 1", "state above no sounds no since 4\n")
}

// TestMachine: a machine has the registers of the time when it was made.
func TestMachine(t *testing.T) {
	wantTalk(t, house.New(), `
> register 15 12 5 on
> action 1 20
> register 10 9 8 on
> key 0 20
> ticks 1
pluck 1 0 0
> state 0 1
! 1
> register 3 3 3 on
> action 1 20
! 1
> state 0 0
state above yes sounds yes since 1
> clear action
> state 0 0
! 8
> ticks 1
! 8
> action 1 20
! 1
> register 10 9 8 on
> action 1 20
> key 0 20
> ticks 1
pluck 1 0 0
> action 1 20
> state 0 0
state above no sounds no since 0
`)
}

// TestAnyAction compares with package action.
func TestAnyAction(t *testing.T) {
	r := newRand()
	names := map[int]string{api.EventPluck: "pluck", api.EventReturn: "return", api.EventDamp: "damp"}
	for range 100 {
		h := house.New()
		regs := make([]api.Register, between(r, 1, 4))
		for i := range regs {
			pluck := between(r, 2, 30)
			back := r.Intn(pluck)
			regs[i] = api.Register{Pluck: pluck, Return: back, Damp: between(r, 0, back), On: r.Intn(3) > 0}
			wantSilent(t, h, fmt.Sprintf("register %d %d %d %s", pluck, back, regs[i].Damp, map[bool]string{true: "on", false: "off"}[regs[i].On]))
		}
		keys, speed := between(r, 1, 4), between(r, 1, 20)
		wantSilent(t, h, fmt.Sprintf("action %d %d", keys, speed))
		m, _ := action.New(keys, speed, regs)
		for range 40 {
			act := api.Act{Kind: between(r, 1, 4), Key: r.Intn(keys), Depth: r.Intn(40), Reg: r.Intn(len(regs))}
			events, _ := m.Do(act)
			want := ""
			for _, e := range events {
				want += fmt.Sprintf("%s %d %d %d\n", names[e.Kind], e.Tick, e.Key, e.Reg)
			}
			wantReply(t, h, lineOfAct(act), want)
			jack, _ := m.Jack(act.Key, act.Reg)
			yes := map[bool]string{true: "yes", false: "no"}
			wantReply(t, h, fmt.Sprintf("state %d %d", act.Key, act.Reg), fmt.Sprintf("state above %s sounds %s since %d\n", yes[jack.Above], yes[jack.Sounds], jack.Since))
		}
	}
}

func lineOfAct(a api.Act) string {
	switch a.Kind {
	case api.ActKey:
		return fmt.Sprintf("key %d %d", a.Key, a.Depth)
	case api.ActTicks:
		return fmt.Sprintf("ticks %d", a.Depth)
	case api.ActOn:
		return fmt.Sprintf("on %d", a.Reg)
	}
	return fmt.Sprintf("off %d", a.Reg)
}
