package house

import (
	"strconv"

	"clavecin/api"
	"clavecin/panel"
	"clavecin/plan"
)

func (h *House) addTask(a args) reply {
	n := a.numbers
	return grow(&h.tasks, api.MaxTasks, api.Task{Normal: n[0], Crash: n[1], Rate: n[2], After: n[3:]})
}

func (h *House) plan(a args) reply {
	best, err := plan.Best(h.tasks, a.numbers[0])
	finish := say("finish", strconv.Itoa(best.Finish), "cost", strconv.Itoa(best.Cost))
	return unless(err, list("days", best.Days...), list("start", best.Start...), finish)
}

func (h *House) tellCurve(args) reply {
	points, err := plan.Curve(h.tasks)
	var corners several
	for _, p := range points {
		corners = append(corners, list("point", p.Finish, p.Cost))
	}
	return unless(err, corners)
}

func (h *House) addShape(a args) reply {
	n := a.numbers
	return grow(&h.shapes, api.MaxShapes, api.Shape{W: n[0], H: n[1], Value: n[2], Turn: a.words[0] == "turn"})
}

// bestCuts returns the best plan of a panel, its value, and how often each shape is cut.
func (h *House) bestCuts(w, height, kerf int) ([]api.Cut, int, []int, api.Errno) {
	cuts, value, err := panel.Best(w, height, kerf, h.shapes)
	if err != api.OK {
		return nil, 0, nil, err
	}
	counts, err := panel.Counts(w, height, kerf, h.shapes, cuts)
	return cuts, value, counts, err
}

func (h *House) cutPanel(a args) reply {
	w, height, kerf := a.numbers[0], a.numbers[1], a.numbers[2]
	cuts, value, counts, err := h.bestCuts(w, height, kerf)
	if err != api.OK {
		return failure(err)
	}
	waste, err := panel.Waste(w, height, kerf, h.shapes, cuts)
	return unless(err, say("value", strconv.Itoa(value), "waste", strconv.Itoa(waste)), list("counts", counts...))
}

func (h *House) saw(a args) reply {
	_, _, counts, err := h.bestCuts(a.numbers[0], a.numbers[1], a.numbers[2])
	if err != api.OK {
		return failure(err)
	}
	var moves []api.Move
	for shape, count := range counts {
		if count > 0 {
			moves = append(moves, api.Move{From: "store", To: "bench", Item: "s" + strconv.Itoa(shape), Qty: count})
		}
	}
	if len(moves) == 0 {
		return failure(api.ErrNone)
	}
	return h.enter(moves)
}
