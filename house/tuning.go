package house

import (
	"slices"
	"strconv"

	"clavecin/api"
	"clavecin/temper"
	"clavecin/tone"
)

// The greatest weight of a ring, and the greatest absolute step.
const (
	maxWeight = 1000
	maxStep   = 12
)

func (h *House) readTone(a args) reply {
	x, err := tone.Parse(a.words[0])
	if err != api.OK {
		return failure(err)
	}
	cents, err := tone.Cents(x)
	return unless(err, say("tone", a.words[0], "cents", strconv.Itoa(cents)))
}

func (h *House) setRing(a args) reply {
	n := a.numbers
	r := api.Ring{Notes: n[0], Span: n[1], Low: n[2], High: n[3], Total: n[4], Pure: n[5], Worst: n[6]}
	if within(r.Notes, 0, api.MaxNotes) {
		r.Fifth = slices.Repeat([]int{1}, r.Notes)
		r.Third = slices.Repeat([]int{1}, r.Notes)
	}
	if err := temper.Check(r); err != api.OK {
		return failure(err)
	}
	h.ring = r
	return several{}
}

func (h *House) hasRing() bool { return h.ring.Notes > 0 }

func (h *House) weigh(a args) reply {
	if !h.hasRing() {
		return failure(api.ErrState)
	}
	place, weight := a.numbers[0], a.numbers[1]
	if !within(place, 0, h.ring.Notes-1) || !within(weight, 0, maxWeight) {
		return failure(api.ErrArg)
	}
	weights := h.ring.Fifth
	if a.words[0] == "third" {
		weights = h.ring.Third
	}
	weights[place] = weight
	return several{}
}

func (h *House) temper(args) reply {
	if !h.hasRing() {
		return failure(api.ErrState)
	}
	steps, cost, err := temper.Best(h.ring)
	if err != api.OK {
		return failure(err)
	}
	h.steps = steps
	return several{list("steps", steps...), list("cost", cost)}
}

func (h *House) setSteps(a args) reply {
	outside := func(step int) bool { return !within(step, -maxStep, maxStep) }
	if len(a.numbers) > api.MaxNotes || slices.ContainsFunc(a.numbers, outside) {
		return failure(api.ErrArg)
	}
	h.steps = a.numbers
	return several{}
}

func (h *House) hasSteps() bool { return len(h.steps) > 0 }

func (h *House) scale(a args) reply {
	return h.frequencies("freq", temper.Scale, a)
}

func (h *House) beats(a args) reply {
	return h.frequencies("beats", temper.Beats, a)
}

// frequencies returns what a function of package temper finds for the house's steps.
func (h *House) frequencies(word string, find func(uint64, []int, int) ([]uint64, api.Errno), a args) reply {
	if !h.hasSteps() {
		return failure(api.ErrState)
	}
	base, units := a.numbers[0], a.numbers[1]
	if base < 0 {
		return failure(api.ErrArg)
	}
	found, err := find(uint64(base), h.steps, units)
	return unless(err, list(word, found...))
}

func (h *House) closes(a args) reply {
	if !h.hasSteps() {
		return failure(api.ErrState)
	}
	closed, err := temper.Closes(h.steps, a.numbers[0])
	return unless(err, say("closes", yesOrNo(closed)))
}
