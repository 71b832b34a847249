package panel

import "clavecin/api"

// malformed is what a reader panics with if what it reads is not a plan.
type malformed struct{}

// demand reports a malformed plan unless something that every plan has is there.
func demand(ok bool) {
	if !ok {
		panic(malformed{})
	}
}

// reader reads a plan and collects its pieces.
type reader struct {
	kerf   int
	shapes []api.Shape
	rest   []api.Cut // what is still to be read
	pieces []api.Piece
}

// next takes one cut.
func (r *reader) next() api.Cut {
	demand(len(r.rest) > 0)
	cut := r.rest[0]
	r.rest = r.rest[1:]
	return cut
}

// read reads the plan of a rectangle. Each part is smaller than the whole, so that no plan, however long, leads far down.
func (r *reader) read(area rectangle) {
	if area.isEmpty() {
		return
	}
	cut := r.next()
	switch cut.Kind {
	case api.CutWaste:
		demand(cut.At == 0)
	case api.CutShape:
		demand(area.isShape(r.shape(cut.At)))
		r.add(area, cut.At)
	case api.CutTurned:
		demand(area.isTurned(r.shape(cut.At)))
		r.add(area, cut.At)
	case api.CutAcross:
		demand(within(cut.At, 1, area.w-1))
		left, right := area.across(cut.At, r.kerf)
		r.read(left)
		r.read(right)
	case api.CutDown:
		demand(within(cut.At, 1, area.h-1))
		upper, lower := area.down(cut.At, r.kerf)
		r.read(upper)
		r.read(lower)
	default:
		panic(malformed{})
	}
}

// shape returns the shape of a number.
func (r *reader) shape(number int) api.Shape {
	demand(within(number, 0, len(r.shapes)-1))
	return r.shapes[number]
}

// add notes that a rectangle is a shape.
func (r *reader) add(area rectangle, number int) {
	r.pieces = append(r.pieces, api.Piece{X: area.x, Y: area.y, W: area.w, H: area.h, Shape: number})
}
