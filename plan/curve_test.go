package plan_test

import (
	"slices"
	"testing"

	"clavecin/api"
	"clavecin/plan"
)

func TestCurveExamples(t *testing.T) {
	for _, c := range []struct {
		tasks []api.Task
		want  []api.Point
	}{
		{chained(), []api.Point{{Finish: 5, Cost: 20}, {Finish: 7}}},
		{joined(), []api.Point{{Finish: 1, Cost: 20}, {Finish: 5}}},
		{[]api.Task{task(0, 0, 5)}, []api.Point{{}}},
		{[]api.Task{task(7, 7, 5)}, []api.Point{{Finish: 7}}},
		{[]api.Task{task(7, 2, 5), task(7, 7, 5)}, []api.Point{{Finish: 7}}},        // shortening is of no use
		{[]api.Task{task(7, 2, 0)}, []api.Point{{Finish: 2}, {Finish: 7}}},          // it costs nothing
		{[]api.Task{task(7, 6, 5)}, []api.Point{{Finish: 6, Cost: 5}, {Finish: 7}}}, // one day
		{[]api.Task{task(7, 3, 5), task(5, 2, 1)}, []api.Point{{Finish: 3, Cost: 22}, {Finish: 5, Cost: 10}, {Finish: 7}}},
		{[]api.Task{task(4, 0, 1), task(4, 0, 2, 0)}, []api.Point{{Cost: 12}, {Finish: 4, Cost: 4}, {Finish: 8}}},
		{[]api.Task{task(4, 0, 2), task(4, 0, 2, 0)}, []api.Point{{Cost: 16}, {Finish: 8}}},                        // equal rates: no corner
		{[]api.Task{task(4, 0, 0), task(4, 2, 2, 0)}, []api.Point{{Finish: 2, Cost: 4}, {Finish: 4}, {Finish: 8}}}, // a corner at cost 0
		{[]api.Task{task(9, 0, 0), task(5, 2, 3)}, []api.Point{{Finish: 2, Cost: 9}, {Finish: 5}, {Finish: 9}}},
		{slices.Repeat([]api.Task{task(1000, 0, 10000)}, 32), []api.Point{{Cost: 320000000}, {Finish: 1000}}},
	} {
		points, err := plan.Curve(c.tasks)
		wantList(t, "Curve", points, err, c.want, api.OK)
	}
}

// cornersOf is the document's definition of corners, given the costs from a first day on.
func cornersOf(first int, costs []int) []api.Point {
	var points []api.Point
	for i, cost := range costs {
		if i == 0 || i == len(costs)-1 || costs[i-1]-cost != cost-costs[i+1] {
			points = append(points, api.Point{Finish: first + i, Cost: cost})
		}
	}
	return points
}

// wantConvex is promise L3 for the costs of neighbouring days.
func wantConvex(t *testing.T, tasks []api.Task, costs []int) {
	t.Helper()
	for i := 1; i < len(costs); i++ {
		if costs[i] > costs[i-1] || i > 1 && costs[i-1]-costs[i] > costs[i-2]-costs[i-1] {
			t.Fatalf("the costs of %v are %v", tasks, costs)
		}
	}
}

// TestCurveOfAll finds the corners of small projects by trying all days.
func TestCurveOfAll(t *testing.T) {
	r := newRand()
	for range 800 {
		tasks := smallTasks(r)
		first, last := finishOf(tasks, crashes(tasks)), finishOf(tasks, normals(tasks))
		var costs []int
		for day := first; day <= last; day++ {
			costs = append(costs, tryAll(tasks, day).cost)
		}
		points, err := plan.Curve(tasks)
		wantList(t, "Curve", points, err, cornersOf(first, costs), api.OK)
		wantConvex(t, tasks, costs)
	}
}

// TestCurveByBest finds the corners of larger projects by Best for each day.
func TestCurveByBest(t *testing.T) {
	r := newRand()
	corners := 0
	for range 150 {
		tasks := anyTasks(r, between(r, 3, 24), between(r, 1, 25), between(r, 0, 40), between(r, 0, 60))
		first, _ := plan.Fastest(tasks)
		_, last, _ := plan.Earliest(tasks, normals(tasks))
		var costs []int
		for day := first; day <= last; day++ {
			s, err := plan.Best(tasks, day)
			if err != api.OK {
				t.Fatalf("Best(%v, %d): error %d", tasks, day, err)
			}
			costs = append(costs, s.Cost)
		}
		points, err := plan.Curve(tasks)
		wantList(t, "Curve", points, err, cornersOf(first, costs), api.OK)
		wantConvex(t, tasks, costs)
		corners += len(points)
	}
	if corners < 600 {
		t.Errorf("%d corners of 150 projects: this tests too little", corners)
	}
}
