package house

import (
	"strconv"

	"clavecin/action"
	"clavecin/api"
	"clavecin/match"
)

func (h *House) addJack(a args) reply {
	return grow(&h.jacks, api.MaxRows, api.Jack{Want: a.numbers[0], Reach: a.numbers[1]})
}

func (h *House) addQuill(a args) reply {
	return grow(&h.quills, api.MaxRows, api.Quill{Stiff: a.numbers[0], Length: a.numbers[1]})
}

func (h *House) voice(a args) reply {
	bend, trim := a.numbers[0], a.numbers[1]
	quills, offs, cost, err := match.Voice(h.jacks, h.quills, bend, trim)
	if err == api.ErrNone {
		table, _ := match.Table(h.jacks, h.quills, bend, trim)
		most, _ := match.Most(table)
		return several{failure(err), list("most", most)}
	}
	return unless(err, list("quills", quills...), list("cut", offs...), list("cost", cost))
}

func (h *House) addTie(a args) reply {
	n := a.numbers
	return grow(&h.ties, api.MaxTies, api.Tie{A: n[0], B: n[1], Least: n[2]})
}

func (h *House) regulate(a args) reply {
	heights, err := action.Regulate(a.numbers[0], h.ties)
	return unless(err, list("heights", heights...))
}

func (h *House) addRegister(a args) reply {
	n := a.numbers
	return grow(&h.registers, api.MaxRegs, api.Register{Pluck: n[0], Return: n[1], Damp: n[2], On: a.words[0] == "on"})
}

func (h *House) setAction(a args) reply {
	m, err := action.New(a.numbers[0], a.numbers[1], h.registers)
	if err != api.OK {
		return failure(err)
	}
	h.machine = m
	return several{}
}

func (h *House) moveKey(a args) reply {
	return h.play(api.Act{Kind: api.ActKey, Key: a.numbers[0], Depth: a.numbers[1]})
}

func (h *House) runTicks(a args) reply {
	return h.play(api.Act{Kind: api.ActTicks, Depth: a.numbers[0]})
}

func (h *House) turnOn(a args) reply {
	return h.play(api.Act{Kind: api.ActOn, Reg: a.numbers[0]})
}

func (h *House) turnOff(a args) reply {
	return h.play(api.Act{Kind: api.ActOff, Reg: a.numbers[0]})
}

// play does an act. (No machine is one that returns ErrState.)
func (h *House) play(act api.Act) reply {
	events, err := h.machine.Do(act)
	var heard several
	for _, e := range events {
		heard = append(heard, list(wordOf(e), e.Tick, e.Key, e.Reg))
	}
	return unless(err, heard)
}

func wordOf(e api.Event) string {
	switch e.Kind {
	case api.EventPluck:
		return "pluck"
	case api.EventReturn:
		return "return"
	}
	return "damp"
}

func (h *House) tellState(a args) reply {
	jack, err := h.machine.Jack(a.numbers[0], a.numbers[1])
	return unless(err, say("state", "above", yesOrNo(jack.Above), "sounds", yesOrNo(jack.Sounds), "since", strconv.Itoa(jack.Since)))
}
