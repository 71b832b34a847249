package plan_test

import (
	"slices"
	"testing"

	"clavecin/api"
	"clavecin/plan"
)

// scene is a project with days whose times are known.
type scene struct {
	tasks  []api.Task
	days   []int
	starts []int
	finish int
	chain  []int
	spare  []int
}

func scenes() []scene {
	row := []api.Task{task(2, 0, 1), task(3, 0, 1, 0), task(4, 0, 1, 1), task(5, 0, 1)}
	diamond := []api.Task{task(3, 0, 1), task(2, 0, 1, 0), task(2, 0, 1, 0), task(1, 0, 1, 1, 2)}
	return []scene{
		{chained(), []int{4, 3}, []int{0, 4}, 7, []int{0, 1}, []int{0, 0}},
		{chained(), []int{2, 3}, []int{0, 2}, 5, []int{0, 1}, []int{0, 0}},
		{joined(), []int{5, 5, 0}, []int{0, 0, 5}, 5, []int{0}, []int{0, 0, 0}},
		{joined(), []int{4, 5, 0}, []int{0, 0, 5}, 5, []int{1}, []int{1, 0, 0}},
		{joined(), []int{5, 2, 0}, []int{0, 0, 5}, 5, []int{0}, []int{0, 3, 0}},
		{row, []int{2, 3, 4, 5}, []int{0, 2, 5, 0}, 9, []int{0, 1, 2}, []int{0, 0, 0, 4}},
		{row, []int{1, 1, 1, 5}, []int{0, 1, 2, 0}, 5, []int{3}, []int{2, 2, 2, 0}},
		{row, []int{2, 1, 2, 5}, []int{0, 2, 3, 0}, 5, []int{0, 1, 2}, []int{0, 0, 0, 0}}, // both are done on day 5
		{row, []int{0, 0, 0, 0}, []int{0, 0, 0, 0}, 0, []int{0}, []int{0, 0, 0, 0}},
		{row, []int{0, 3, 0, 0}, []int{0, 0, 3, 0}, 3, []int{1}, []int{0, 0, 0, 3}}, // task 1 begins on day 0, though it is after task 0
		{row, []int{0, 0, 4, 4}, []int{0, 0, 0, 0}, 4, []int{2}, []int{0, 0, 0, 0}},
		{diamond, []int{3, 2, 2, 1}, []int{0, 3, 3, 5}, 6, []int{0, 1, 3}, []int{0, 0, 0, 0}},
		{diamond, []int{3, 1, 2, 1}, []int{0, 3, 3, 5}, 6, []int{0, 2, 3}, []int{0, 1, 0, 0}},
		{diamond, []int{3, 2, 2, 0}, []int{0, 3, 3, 5}, 5, []int{0, 1}, []int{0, 0, 0, 0}},
		{diamond, []int{3, 0, 0, 1}, []int{0, 3, 3, 3}, 4, []int{0, 1, 3}, []int{0, 0, 0, 0}}, // a task without days is in the chain
		{[]api.Task{task(0, 0, 5)}, []int{0}, []int{0}, 0, []int{0}, []int{0}},
		{[]api.Task{task(1000, 1000, 5)}, []int{1000}, []int{0}, 1000, []int{0}, []int{0}},
		{[]api.Task{task(0, 0, 0), task(5, 0, 0), task(1, 1, 0, 0, 1), task(1, 1, 0, 0)}, []int{0, 5, 1, 1}, []int{0, 0, 5, 0}, 6, []int{1, 2}, []int{5, 0, 0, 5}},
	}
}

func TestTimes(t *testing.T) {
	for _, s := range scenes() {
		starts, finish, err := plan.Earliest(s.tasks, s.days)
		wantList(t, "Earliest", starts, err, s.starts, api.OK)
		wantInt(t, "Earliest", finish, err, s.finish, api.OK)
		chain, err := plan.Critical(s.tasks, s.days)
		wantList(t, "Critical", chain, err, s.chain, api.OK)
		spare, err := plan.Spare(s.tasks, s.days)
		wantList(t, "Spare", spare, err, s.spare, api.OK)
		for _, later := range []int{0, 1, 100} {
			want := slices.Clone(s.starts)
			for i := range want {
				want[i] += s.spare[i] + later
			}
			latest, err := plan.Latest(s.tasks, s.days, s.finish+later)
			wantList(t, "Latest", latest, err, want, api.OK)
		}
		if s.finish > 0 {
			latest, err := plan.Latest(s.tasks, s.days, s.finish-1)
			wantList(t, "Latest", latest, err, nil, api.ErrNone)
			latest, err = plan.Latest(s.tasks, s.days, 0)
			wantList(t, "Latest", latest, err, nil, api.ErrNone)
		}
	}
	latest, err := plan.Latest(joined(), []int{5, 5, 0}, 1000000)
	wantList(t, "Latest", latest, err, []int{999995, 999995, 1000000}, api.OK)
}

// isPossible is the document's definition of a start that is possible and of what is done on a day.
func isPossible(tasks []api.Task, days, starts []int, finish int) bool {
	for i, task := range tasks {
		if starts[i] < 0 || starts[i]+days[i] > finish {
			return false
		}
		for _, before := range task.After {
			if starts[before]+days[before] > starts[i] {
				return false
			}
		}
	}
	return true
}

// TestTimesOfAll tests that no task of small projects can begin earlier or later, with longest chains as a second method.
func TestTimesOfAll(t *testing.T) {
	r := newRand()
	for range 2000 {
		tasks := anyTasks(r, between(r, 1, 10), 9, 5, between(r, 0, 100))
		days := anyDays(r, tasks)
		starts, finish, err := plan.Earliest(tasks, days)
		wantInt(t, "Earliest", finish, err, finishOf(tasks, days), api.OK)
		later := finish + between(r, 0, 3)
		latest, err := plan.Latest(tasks, days, later)
		spare, errSpare := plan.Spare(tasks, days)
		if err != api.OK || errSpare != api.OK || !isPossible(tasks, days, starts, finish) || !isPossible(tasks, days, latest, later) {
			t.Fatalf("%v, %v: %v and %v are not possible", tasks, days, starts, latest)
		}
		for i := range tasks {
			wantInt(t, "the start of a task", starts[i], api.OK, longest(tasks, days, i)-days[i], api.OK)
			wantInt(t, "the end of a task", later-latest[i], api.OK, tail(tasks, days, i), api.OK)
			wantInt(t, "Spare", spare[i], api.OK, latest[i]-starts[i]-(later-finish), api.OK)
		}
	}
}

// tail returns how long the longest chain of tasks takes that begins with a task.
func tail(tasks []api.Task, days []int, first int) int {
	most := 0
	for i, task := range tasks {
		if slices.Contains(task.After, first) {
			most = max(most, tail(tasks, days, i))
		}
	}
	return most + days[first]
}

// TestCritical is promise L1, and the rules by which the chain is chosen.
func TestCritical(t *testing.T) {
	r := newRand()
	for range 3000 {
		tasks := anyTasks(r, between(r, 1, 12), []int{1, 2, 9}[r.Intn(3)], 5, between(r, 0, 100))
		days := anyDays(r, tasks)
		starts, finish, _ := plan.Earliest(tasks, days)
		chain, err := plan.Critical(tasks, days)
		if err != api.OK || len(chain) == 0 {
			t.Fatalf("Critical(%v, %v): %v, error %d", tasks, days, chain, err)
		}
		sum, day := 0, finish
		for k, task := range slices.Backward(chain) {
			candidates := tasks[chain[min(k+1, len(chain)-1)]].After
			if k == len(chain)-1 {
				candidates = make([]int, len(tasks))
				for i := range candidates {
					candidates[i] = i
				}
			}
			first := slices.IndexFunc(candidates, func(i int) bool { return starts[i]+days[i] == day })
			if first < 0 || candidates[first] != task || (k == 0) != (starts[task] == 0) {
				t.Fatalf("Critical(%v, %v): %v", tasks, days, chain)
			}
			sum, day = sum+days[task], starts[task]
		}
		wantInt(t, "the days of the chain", sum, api.OK, finish, api.OK)
	}
}

func TestCost(t *testing.T) {
	for _, c := range []struct {
		tasks []api.Task
		days  []int
		want  int
	}{
		{chained(), []int{4, 3}, 0},
		{chained(), []int{3, 3}, 10},
		{chained(), []int{2, 3}, 20},
		{joined(), []int{5, 5, 0}, 0},
		{joined(), []int{4, 4, 0}, 5},
		{joined(), []int{1, 5, 0}, 12},
		{joined(), []int{1, 1, 0}, 20},
		{slices.Repeat([]api.Task{task(1000, 0, 10000)}, 32), make([]int, 32), 320000000},
		{[]api.Task{task(1000, 0, 0)}, []int{0}, 0},
	} {
		n, err := plan.Cost(c.tasks, c.days)
		wantInt(t, "Cost", n, err, c.want, api.OK)
	}
}

func TestFastest(t *testing.T) {
	for _, c := range []struct {
		tasks []api.Task
		want  int
	}{
		{chained(), 5},
		{joined(), 1},
		{[]api.Task{task(0, 0, 0)}, 0},
		{[]api.Task{task(9, 0, 1)}, 0},
		{[]api.Task{task(9, 9, 1), task(9, 3, 1), task(9, 5, 1, 1)}, 9},
		{[]api.Task{task(9, 7, 1), task(9, 3, 1), task(9, 5, 1, 1)}, 8},
		{[]api.Task{task(9, 7, 1), task(9, 3, 1), task(9, 5, 1, 0, 1)}, 12},
	} {
		n, err := plan.Fastest(c.tasks)
		wantInt(t, "Fastest", n, err, c.want, api.OK)
	}
	row := slices.Repeat([]api.Task{task(1000, 1000, 1)}, 32)
	for i := 1; i < len(row); i++ {
		row[i].After = []int{i - 1}
	}
	n, err := plan.Fastest(row)
	wantInt(t, "Fastest", n, err, 32000, api.OK)
}

// TestMoreTasks is promise L6.
func TestMoreTasks(t *testing.T) {
	r := newRand()
	for range 1000 {
		tasks := anyTasks(r, between(r, 2, 12), 9, 5, between(r, 0, 100))
		days := anyDays(r, tasks)
		last := len(tasks) - 1
		_, before, err := plan.Earliest(tasks[:last], days[:last])
		_, after, errAfter := plan.Earliest(tasks, days)
		if err != api.OK || errAfter != api.OK || after < before {
			t.Fatalf("Earliest(%v, %v): finish %d, but %d without the last task", tasks, days, after, before)
		}
	}
}
