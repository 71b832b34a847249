package action

import (
	"slices"

	"clavecin/api"
)

// nowhere stands for no place.
const nowhere = -2

// raising raises places, all of them from 0 on, until they satisfy ties.
type raising struct {
	ties   []api.Tie
	height []int // of each place, the ground first: place p has index p+1
	by     []int // the tie that raised each place last
}

func newRaising(n int, ties []api.Tie) *raising {
	return &raising{ties: ties, height: make([]int, n+1), by: make([]int, n+1)}
}

// settle raises places until every tie holds and returns nowhere,
// or, if that cannot be, a place from which the ties by which places were raised lead back into a circle.
func (r *raising) settle() int {
	raised := nowhere
	// A place that is raised in a round was raised by one that was raised in this round or the one before.
	// If there are as many rounds as places, a way back through all of them meets a place twice.
	for range r.height {
		raised = r.round()
		if raised == nowhere {
			break
		}
	}
	return raised
}

// round raises the places at the ends of all ties, one after the other, and returns the last one that it raised, or nowhere.
func (r *raising) round() int {
	raised := nowhere
	for i, t := range r.ties {
		if least := r.height[t.A+1] + t.Least; r.height[t.B+1] < least {
			r.height[t.B+1], r.by[t.B+1] = least, i
			raised = t.B
		}
	}
	return raised
}

// circle returns the ties of the circle into which the ways back from a place lead, in the order of their direction.
// Their Leasts add up to more than 0: the one that closed the circle raised a place from which the others had come to its beginning.
func (r *raising) circle(place int) []int {
	for range r.height {
		place = r.ties[r.by[place+1]].A
	}
	var list []int
	for p := place; len(list) == 0 || p != place; {
		tie := r.by[p+1]
		list = append(list, tie)
		p = r.ties[tie].A
	}
	slices.Reverse(list)
	return list
}

// heights returns the heights of all places but the ground.
func (r *raising) heights() []int {
	return slices.Clone(r.height[1:])
}
