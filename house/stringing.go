package house

import (
	"strconv"

	"clavecin/api"
	"clavecin/wire"
)

func (h *House) setGauges(a args) reply {
	if len(a.numbers) > api.MaxGauges {
		return failure(api.ErrFull)
	}
	h.gauges = a.numbers
	return several{}
}

func (h *House) addMetal(a args) reply {
	return grow(&h.metals, api.MaxMetals, api.Metal{Density: a.numbers[0], Strength: a.numbers[1:]})
}

func (h *House) addCourse(a args) reply {
	n := a.numbers
	return grow(&h.courses, api.MaxCourses, api.Course{Length: n[0], Freq: n[1], Target: n[2], Weight: n[3]})
}

// scaling returns the strings with a safety and changes, which are the first numbers of a command.
func (h *House) scaling(a args) api.Scaling {
	return api.Scaling{Courses: h.courses, Metals: h.metals, Gauges: h.gauges, Safety: a.numbers[0], Changes: a.numbers[1]}
}

func (h *House) chooseStrings(a args) reply {
	s := h.scaling(a)
	picks, cost, err := wire.Best(s)
	if err != api.OK {
		return failure(err)
	}
	pull, err := wire.Pull(s, picks)
	chosen := sentence{"picks"}
	for _, pick := range picks {
		chosen = append(chosen, strconv.Itoa(pick.Metal)+":"+strconv.Itoa(pick.Gauge))
	}
	return unless(err, chosen, list("cost", cost), list("pull", pull))
}

func (h *House) takeWire(a args) reply {
	s := h.scaling(a)
	picks, _, err := wire.Best(s)
	if err != api.OK {
		return failure(err)
	}
	needs, err := wire.Needs(s, picks, a.numbers[2])
	if err != api.OK {
		return failure(err)
	}
	var moves []api.Move
	for _, lot := range needs {
		moves = append(moves, api.Move{From: "store", To: "case", Item: lot.Item, Qty: lot.Qty})
	}
	return h.enter(moves)
}

func (h *House) cutCoils(a args) reply {
	coils, total, err := wire.Coils(a.numbers[1:], a.numbers[0])
	return unless(err, list("coils", coils...), list("total", total))
}
