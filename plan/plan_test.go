package plan_test

import (
	"slices"
	"testing"

	"clavecin/api"
	"clavecin/plan"
)

func TestCheck(t *testing.T) {
	for _, tasks := range faulty() {
		wantInt(t, "Check", 0, plan.Check(tasks), 0, api.ErrArg)
	}
	for _, tasks := range [][]api.Task{
		chained(), joined(), make([]api.Task, 1), make([]api.Task, 32), {task(0, 0, 0)}, {task(1000, 1000, 10000)}, {task(1000, 0, 0)},
		{task(1, 1, 1), task(1, 1, 1), task(1, 1, 1, 0, 1)}, {task(1, 1, 1), task(1, 1, 1), task(1, 1, 1, 1)}, {task(1, 1, 1), task(1, 1, 1, []int{}...)},
		anyTasks(newRand(), 32, 1000, 10000, 100),
	} {
		wantInt(t, "Check", 0, plan.Check(tasks), 0, api.OK)
	}
}

// TestBadProjects: with a project that is not valid every function returns ErrArg, whatever else it is given.
func TestBadProjects(t *testing.T) {
	for _, tasks := range faulty() {
		for _, days := range [][]int{make([]int, len(tasks)), normals(tasks), crashes(tasks), {1}, nil} {
			starts, finish, err := plan.Earliest(tasks, days)
			wantList(t, "Earliest", starts, err, nil, api.ErrArg)
			wantInt(t, "Earliest", finish, err, 0, api.ErrArg)
			list, err := plan.Critical(tasks, days)
			wantList(t, "Critical", list, err, nil, api.ErrArg)
			cost, err := plan.Cost(tasks, days)
			wantInt(t, "Cost", cost, err, 0, api.ErrArg)
			list, err = plan.Spare(tasks, days)
			wantList(t, "Spare", list, err, nil, api.ErrArg)
			for _, deadline := range append(badDeadlines(), 0, 5, 1000000) {
				list, err = plan.Latest(tasks, days, deadline)
				wantList(t, "Latest", list, err, nil, api.ErrArg)
			}
		}
		n, err := plan.Fastest(tasks)
		wantInt(t, "Fastest", n, err, 0, api.ErrArg)
		points, err := plan.Curve(tasks)
		wantList(t, "Curve", points, err, nil, api.ErrArg)
		for _, deadline := range append(badDeadlines(), 0, 5, 1000000) {
			s, err := plan.Best(tasks, deadline)
			wantNoSchedule(t, s, err, api.ErrArg)
			f, err := plan.Proof(tasks, deadline)
			wantNoFlow(t, f, err, api.ErrArg)
			n, err = plan.Worth(tasks, deadline, f)
			wantInt(t, "Worth", n, err, 0, api.ErrArg)
		}
	}
}

func TestBadDeadlines(t *testing.T) {
	tasks := chained()
	for _, deadline := range badDeadlines() {
		s, err := plan.Best(tasks, deadline)
		wantNoSchedule(t, s, err, api.ErrArg)
		f, err := plan.Proof(tasks, deadline)
		wantNoFlow(t, f, err, api.ErrArg)
		for _, f := range []api.Flow{{}, {Normal: []int{0, 0}, Crash: []int{0, 0}, Links: []int{0}, In: []int{0, 0}, Out: []int{0, 0}}} {
			n, err := plan.Worth(tasks, deadline, f)
			wantInt(t, "Worth", n, err, 0, api.ErrArg)
		}
		for _, days := range append(misfits(), []int{4, 3}) {
			list, err := plan.Latest(tasks, days, deadline)
			wantList(t, "Latest", list, err, nil, api.ErrArg)
		}
	}
}

func TestMisfits(t *testing.T) {
	tasks := chained()
	for _, days := range misfits() {
		starts, finish, err := plan.Earliest(tasks, days)
		wantList(t, "Earliest", starts, err, nil, api.ErrForm)
		wantInt(t, "Earliest", finish, err, 0, api.ErrForm)
		list, err := plan.Critical(tasks, days)
		wantList(t, "Critical", list, err, nil, api.ErrForm)
		cost, err := plan.Cost(tasks, days)
		wantInt(t, "Cost", cost, err, 0, api.ErrForm)
		list, err = plan.Spare(tasks, days)
		wantList(t, "Spare", list, err, nil, api.ErrForm)
		for _, finish := range []int{0, 7, 1000000} {
			list, err = plan.Latest(tasks, days, finish)
			wantList(t, "Latest", list, err, nil, api.ErrForm)
		}
	}
	for _, days := range [][]int{{2, 3}, {3, 3}, {4, 3}} {
		_, finish, err := plan.Earliest(tasks, days)
		wantInt(t, "Earliest", finish, err, days[0]+3, api.OK)
	}
}

// TestArgumentsStay is rules R5 and R6: arguments stay as they are, and results are new memory.
func TestArgumentsStay(t *testing.T) {
	after := []int{0, 1, 77}
	behind := append(joined(), task(1, 1, 1))
	behind[2].After = after[:2]
	tasks, was := behind[:3], copyTasks(behind)
	daysBehind := []int{5, 2, 0, 99}
	days := daysBehind[:3]
	for range 2 {
		starts, finish, err := plan.Earliest(tasks, days)
		wantList(t, "Earliest", starts, err, []int{0, 0, 5}, api.OK)
		wantInt(t, "Earliest", finish, err, 5, api.OK)
		latest, err := plan.Latest(tasks, days, 7)
		wantList(t, "Latest", latest, err, []int{2, 5, 7}, api.OK)
		chain, err := plan.Critical(tasks, days)
		wantList(t, "Critical", chain, err, []int{0}, api.OK)
		spare, err := plan.Spare(tasks, days)
		wantList(t, "Spare", spare, err, []int{0, 3, 0}, api.OK)
		points, err := plan.Curve(tasks)
		wantList(t, "Curve", points, err, []api.Point{{Finish: 1, Cost: 20}, {Finish: 5}}, api.OK)
		s, err := plan.Best(tasks, 4)
		wantList(t, "the days of Best", s.Days, err, []int{4, 4, 0}, api.OK)
		wantList(t, "the starts of Best", s.Start, err, []int{0, 0, 4}, api.OK)
		f, err := plan.Proof(tasks, 4)
		wasFlow := copyFlow(f)
		n, errWorth := plan.Worth(tasks, 4, f)
		wantInt(t, "Worth", n, errWorth, 5, err)
		if !sameFlow(f, wasFlow) {
			t.Fatal("a flow was changed")
		}
		for _, list := range [][]int{starts, latest, chain, spare, s.Days, s.Start, f.Normal, f.Crash, f.Links, f.In, f.Out} { // must not matter to the second round
			clear(list[:cap(list)])
		}
		clear(points[:cap(points)])
		if !sameTasks(behind, was) || !slices.Equal(after, []int{0, 1, 77}) || !slices.Equal(daysBehind, []int{5, 2, 0, 99}) {
			t.Fatal("an argument, or memory behind it, was changed")
		}
	}
}

// TestShared is rule R5 for the parts of one result.
func TestShared(t *testing.T) {
	s, err := plan.Best(joined(), 4)
	clear(s.Start[:cap(s.Start)])
	wantList(t, "the days of Best", s.Days, err, []int{4, 4, 0}, api.OK)
	f, err := plan.Proof(joined(), 4)
	was := copyFlow(f)
	for _, list := range []*[]int{&f.Normal, &f.Crash, &f.Links, &f.In, &f.Out} {
		for range 50 {
			*list = append(*list, -1)
		}
	}
	if now := (api.Flow{Normal: f.Normal[:3], Crash: f.Crash[:3], Links: f.Links[:2], In: f.In[:3], Out: f.Out[:3]}); err != api.OK || !sameFlow(now, was) {
		t.Errorf("the parts of a flow share memory: %v, error %d, want %v", now, err, was)
	}
}

// TestNilAndEmpty is rule R4.
func TestNilAndEmpty(t *testing.T) {
	for _, empty := range [][]int{nil, {}} {
		one := []api.Task{{Normal: 3, Crash: 1, Rate: 2, After: empty}}
		wantBest(t, one, 2, solution{true, 2, []int{2}})
		n, err := plan.Worth(one, 2, api.Flow{Normal: []int{2}, Crash: []int{0}, Links: empty, In: []int{2}, Out: []int{2}})
		wantInt(t, "Worth", n, err, 2, api.OK)
		n, err = plan.Worth(one, 2, api.Flow{Normal: empty, Crash: empty, Links: empty, In: empty, Out: empty})
		wantInt(t, "Worth", n, err, 0, api.ErrForm)
		list, err := plan.Critical(one, empty)
		wantList(t, "Critical", list, err, nil, api.ErrForm)
	}
}

// TestAgain is rule R6: the same calls have the same results.
func TestAgain(t *testing.T) {
	r := newRand()
	for range 100 {
		tasks := anyTasks(r, between(r, 1, 20), 50, 20, 20)
		fastest, _ := plan.Fastest(tasks)
		f, err := plan.Proof(tasks, fastest)
		again, errAgain := plan.Proof(copyTasks(tasks), fastest)
		if err != api.OK || errAgain != api.OK || !sameFlow(f, again) {
			t.Fatalf("Proof(%v, %d): %v and %v", tasks, fastest, f, again)
		}
	}
}
