package panel

import "clavecin/api"

// Layout returns the pieces of a plan at their places.
func Layout(w, h, kerf int, shapes []api.Shape, plan []api.Cut) (pieces []api.Piece, err api.Errno) {
	if Check(w, h, kerf, shapes) != api.OK {
		return nil, api.ErrArg
	}
	defer func() {
		switch cause := recover().(type) {
		case nil:
		case malformed:
			pieces, err = nil, api.ErrForm
		default: // a fault of the program must not pass for one of the plan
			panic(cause)
		}
	}()
	r := reader{kerf: kerf, shapes: shapes, rest: plan}
	r.read(rectangle{w: w, h: h})
	demand(len(r.rest) == 0)
	return r.pieces, api.OK
}

// Worth returns a plan's value.
func Worth(w, h, kerf int, shapes []api.Shape, plan []api.Cut) (int, api.Errno) {
	pieces, err := Layout(w, h, kerf, shapes, plan)
	if err != api.OK {
		return 0, err
	}
	value := 0
	for _, piece := range pieces {
		value += shapes[piece.Shape].Value
	}
	return value, api.OK
}

// Counts returns how often each shape is cut.
func Counts(w, h, kerf int, shapes []api.Shape, plan []api.Cut) ([]int, api.Errno) {
	pieces, err := Layout(w, h, kerf, shapes, plan)
	if err != api.OK {
		return nil, err
	}
	counts := make([]int, len(shapes))
	for _, piece := range pieces {
		counts[piece.Shape]++
	}
	return counts, api.OK
}

// Waste returns the area that no piece covers.
func Waste(w, h, kerf int, shapes []api.Shape, plan []api.Cut) (int, api.Errno) {
	pieces, err := Layout(w, h, kerf, shapes, plan)
	if err != api.OK {
		return 0, err
	}
	area := w * h
	for _, piece := range pieces {
		area -= piece.W * piece.H
	}
	return area, api.OK
}
