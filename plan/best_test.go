package plan_test

import (
	"math/rand"
	"slices"
	"testing"
	"time"

	"clavecin/api"
	"clavecin/plan"
)

func TestBestExamples(t *testing.T) {
	diamond := []api.Task{task(3, 1, 5), task(4, 1, 3), task(4, 1, 3), task(2, 1, 5, 0, 1, 2)}
	for _, c := range []struct {
		tasks    []api.Task
		deadline int
		want     solution
	}{
		{chained(), 4, solution{}},
		{chained(), 5, solution{true, 20, []int{2, 3}}},
		{chained(), 6, solution{true, 10, []int{3, 3}}},
		{chained(), 7, solution{true, 0, []int{4, 3}}},
		{chained(), 1000000, solution{true, 0, []int{4, 3}}},
		{joined(), 0, solution{}},
		{joined(), 1, solution{true, 20, []int{1, 1, 0}}},
		{joined(), 4, solution{true, 5, []int{4, 4, 0}}},
		{joined(), 5, solution{true, 0, []int{5, 5, 0}}},
		{[]api.Task{task(0, 0, 0)}, 0, solution{true, 0, []int{0}}},
		{[]api.Task{task(5, 0, 9)}, 0, solution{true, 45, []int{0}}},
		{[]api.Task{task(5, 5, 9)}, 4, solution{}},
		{[]api.Task{task(5, 5, 9)}, 5, solution{true, 0, []int{5}}},
		{[]api.Task{task(4, 0, 1), task(4, 0, 1, 0)}, 6, solution{true, 2, []int{4, 2}}}, // equal rates: the earlier task is longer
		{[]api.Task{task(4, 0, 1), task(4, 0, 1, 0)}, 3, solution{true, 5, []int{3, 0}}},
		{[]api.Task{task(4, 0, 1), task(4, 0, 2, 0)}, 6, solution{true, 2, []int{2, 4}}},
		{[]api.Task{task(4, 0, 0), task(4, 0, 0, 0)}, 6, solution{true, 0, []int{4, 2}}}, // days that cost nothing
		{[]api.Task{task(4, 1, 0), task(4, 0, 0, 0), task(9, 5, 0)}, 6, solution{true, 0, []int{4, 2, 6}}},
		{[]api.Task{task(4, 0, 0), task(4, 0, 1, 0)}, 6, solution{true, 0, []int{2, 4}}},
		{[]api.Task{task(4, 2, 0), task(4, 0, 1, 0)}, 5, solution{true, 1, []int{2, 3}}},
		{diamond, 5, solution{true, 5, []int{3, 4, 4, 1}}}, // one day of task 3, not of two others
		{diamond, 4, solution{true, 11, []int{3, 3, 3, 1}}},
		{diamond, 3, solution{true, 22, []int{2, 2, 2, 1}}},
		{diamond, 2, solution{true, 33, []int{1, 1, 1, 1}}},
		{diamond, 1, solution{}},
	} {
		if got := tryAll(c.tasks, c.deadline); got.found != c.want.found || got.cost != c.want.cost || !slices.Equal(got.days, c.want.days) {
			t.Fatalf("%v, %d: the test is wrong: %v", c.tasks, c.deadline, got)
		}
		wantBest(t, c.tasks, c.deadline, c.want)
	}
}

// TestLongerAgain: Best may have to make a task longer again that is shorter for a later deadline.
func TestLongerAgain(t *testing.T) {
	// The way 0, 1, 3 is the longest one: shortening task 1 is cheapest until the ways 0, 4 and 2, 3 are as long.
	// Then tasks 0 and 3 are shortened, and task 1 is made longer again.
	tasks := []api.Task{task(10, 0, 4), task(10, 0, 3, 0), task(18, 18, 0), task(10, 0, 4, 1, 2), task(18, 18, 0, 0)}
	for _, c := range []struct {
		deadline int
		want     solution
	}{
		{30, solution{true, 0, []int{10, 10, 18, 10, 18}}},
		{29, solution{true, 3, []int{10, 9, 18, 10, 18}}},
		{28, solution{true, 6, []int{10, 8, 18, 10, 18}}},
		{27, solution{true, 11, []int{9, 9, 18, 9, 18}}},
		{26, solution{true, 16, []int{8, 10, 18, 8, 18}}},
		{25, solution{true, 24, []int{7, 10, 18, 7, 18}}},
	} {
		wantBest(t, tasks, c.deadline, c.want)
		wantProof(t, tasks, c.deadline, c.want.cost)
	}
}

// TestBestOfAll tries all days of small projects for each deadline: promises L2, L4, L5 and P2.
func TestBestOfAll(t *testing.T) {
	r := newRand()
	for range 1200 {
		tasks := smallTasks(r)
		for deadline := range finishOf(tasks, normals(tasks)) + 2 {
			want := tryAll(tasks, deadline)
			wantBest(t, tasks, deadline, want)
			if want.found {
				wantProof(t, tasks, deadline, want.cost)
				continue
			}
			f, err := plan.Proof(tasks, deadline)
			wantNoFlow(t, f, err, api.ErrNone)
		}
	}
}

// TestBestByProof tests larger projects by their proofs, and by trying to make each task longer.
func TestBestByProof(t *testing.T) {
	r := newRand()
	for k := range 400 {
		tasks := anyTasks(r, between(r, 6, 32), []int{3, 30, 1000}[k%3], []int{1, 5, 10000}[k%5%3], []int{5, 15, 40, 90}[k%4])
		fastest, _ := plan.Fastest(tasks)
		_, normal, _ := plan.Earliest(tasks, normals(tasks))
		for _, deadline := range []int{fastest, between(r, fastest, normal), between(r, fastest, normal)} {
			s, err := plan.Best(tasks, deadline)
			if err != api.OK {
				t.Fatalf("Best(%v, %d): error %d", tasks, deadline, err)
			}
			wantSchedule(t, tasks, deadline, s)
			wantProof(t, tasks, deadline, s.Cost)
			wantGreatest(t, tasks, deadline, s)
		}
		if fastest > 0 {
			s, err := plan.Best(tasks, fastest-1)
			wantNoSchedule(t, s, err, api.ErrNone)
			f, err := plan.Proof(tasks, fastest-1)
			wantNoFlow(t, f, err, api.ErrNone)
		}
	}
}

// TestNormal is promise L4.
func TestNormal(t *testing.T) {
	r := newRand()
	for range 300 {
		tasks := anyTasks(r, between(r, 1, 32), 1000, between(r, 0, 10000), between(r, 0, 50))
		_, finish, _ := plan.Earliest(tasks, normals(tasks))
		for _, deadline := range []int{finish, finish + 1, 1000000} {
			wantBest(t, tasks, deadline, solution{true, 0, normals(tasks)})
			wantProof(t, tasks, deadline, 0)
		}
		if finish == 0 {
			continue
		}
		if s, err := plan.Best(tasks, finish-1); err == api.OK && slices.Equal(s.Days, normals(tasks)) {
			t.Errorf("Best(%v, %d): %v", tasks, finish-1, s)
		}
	}
}

// greatProjects returns projects of 32 tasks of many kinds.
func greatProjects(r *rand.Rand) [][]api.Task {
	apart, row, doubled, squared := make([]api.Task, 32), make([]api.Task, 32), make([]api.Task, 32), make([]api.Task, 32)
	for i := range 32 {
		apart[i] = task(1000, 0, 10000)
		row[i] = task(1000, 0, 10000-i)
		doubled[i] = task(min(1000, 1<<(i/2)), 0, 1<<(i*7%14))
		squared[i] = task(1000-i*i/2, i*3, 1+i*i*9)
		if i > 0 {
			row[i].After = []int{i - 1}
		}
		for j := range i {
			if j/2+1 == i/2 {
				doubled[i].After = append(doubled[i].After, j)
			}
			if j/4 < i/4 {
				squared[i].After = append(squared[i].After, j)
			}
		}
	}
	list := [][]api.Task{apart, row, doubled, squared, make([]api.Task, 32)}
	for _, percent := range []int{2, 5, 10, 20, 50, 100} {
		list = append(list, anyTasks(r, 32, 1000, 10000, percent))
	}
	return list
}

// TestBestGreatest: projects of 32 tasks are planned quickly.
func TestBestGreatest(t *testing.T) {
	for i, tasks := range greatProjects(newRand()) {
		fastest, _ := plan.Fastest(tasks)
		start := time.Now()
		s, err := plan.Best(tasks, fastest)
		points, errCurve := plan.Curve(tasks)
		if took := time.Since(start); took > time.Second {
			t.Errorf("project %d took %v", i, took)
		}
		if err != api.OK || errCurve != api.OK || len(points) == 0 {
			t.Fatalf("project %d: errors %d and %d", i, err, errCurve)
		}
		wantSchedule(t, tasks, fastest, s)
		wantProof(t, tasks, fastest, s.Cost)
		wantGreatest(t, tasks, fastest, s)
		if points[0] != (api.Point{Finish: fastest, Cost: s.Cost}) {
			t.Errorf("project %d: the curve begins at %v, and Best for %d costs %d", i, points[0], fastest, s.Cost)
		}
	}
}
