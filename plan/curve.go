package plan

import (
	"slices"

	"clavecin/api"
)

// Curve returns the corners of the curve of least costs.
func Curve(tasks []api.Task) ([]api.Point, api.Errno) {
	if Check(tasks) != api.OK {
		return nil, api.ErrArg
	}
	first := newTimes(tasks, crashDays(tasks)).finish()
	d := newDescent(tasks)
	last := d.day()
	corners := []api.Point{{Finish: last}}
	cost := 0
	for d.day() > first {
		day, before := d.day(), d.net.flowing()
		d.fill()
		rate := d.net.flowing() // what the day before costs more
		if rate != before && day != last {
			corners = append(corners, api.Point{Finish: day, Cost: cost})
		}
		d.lower()
		cost += rate * (day - d.day())
	}
	if first != last {
		corners = append(corners, api.Point{Finish: first, Cost: cost})
	}
	slices.Reverse(corners)
	return corners, api.OK
}
