package plan_test

import (
	"math"
	"math/big"
	"math/rand"
	"slices"
	"testing"

	"clavecin/api"
	"clavecin/plan"
)

// The signatures that the document lists.
var (
	_ func([]api.Task) api.Errno                         = plan.Check
	_ func([]api.Task, []int) ([]int, int, api.Errno)    = plan.Earliest
	_ func([]api.Task, []int, int) ([]int, api.Errno)    = plan.Latest
	_ func([]api.Task, []int) ([]int, api.Errno)         = plan.Critical
	_ func([]api.Task, []int) (int, api.Errno)           = plan.Cost
	_ func([]api.Task) (int, api.Errno)                  = plan.Fastest
	_ func([]api.Task, int) (api.Schedule, api.Errno)    = plan.Best
	_ func([]api.Task, int) (api.Flow, api.Errno)        = plan.Proof
	_ func([]api.Task, int, api.Flow) (int, api.Errno)   = plan.Worth
	_ func([]api.Task) ([]api.Point, api.Errno)          = plan.Curve
	_ func(tasks []api.Task, d []int) ([]int, api.Errno) = plan.Spare
)

func newRand() *rand.Rand { return rand.New(rand.NewSource(1)) }

// between returns a random number from low to high.
func between(r *rand.Rand, low, high int) int { return low + r.Intn(high-low+1) }

// task returns a task.
func task(normal, crash, rate int, after ...int) api.Task {
	return api.Task{Normal: normal, Crash: crash, Rate: rate, After: after}
}

// The document's examples.

func chained() []api.Task { return []api.Task{task(4, 2, 10), task(3, 3, 0, 0)} }
func joined() []api.Task  { return []api.Task{task(5, 1, 3), task(5, 1, 2), task(0, 0, 0, 0, 1)} }

// anyTasks returns a valid project whose tasks are after each earlier one in the given percentage of cases.
func anyTasks(r *rand.Rand, count, days, rate, percent int) []api.Task {
	tasks := make([]api.Task, count)
	for i := range tasks {
		normal := between(r, 0, days)
		tasks[i] = task(normal, between(r, 0, normal), between(r, 0, rate))
		for j := range i {
			if r.Intn(100) < percent {
				tasks[i].After = append(tasks[i].After, j)
			}
		}
	}
	return tasks
}

// smallTasks returns a project that is small enough to try everything, with many ties.
func smallTasks(r *rand.Rand) []api.Task {
	days := []int{1, 2, 3, 4}[r.Intn(4)]
	return anyTasks(r, between(r, 1, 8-days), days, []int{0, 1, 2, 5}[r.Intn(4)], []int{0, 20, 40, 70, 100}[r.Intn(5)])
}

// anyDays returns days that fit.
func anyDays(r *rand.Rand, tasks []api.Task) []int {
	days := make([]int, len(tasks))
	for i, t := range tasks {
		days[i] = between(r, t.Crash, t.Normal)
	}
	return days
}

func normals(tasks []api.Task) []int {
	var days []int
	for _, t := range tasks {
		days = append(days, t.Normal)
	}
	return days
}

func crashes(tasks []api.Task) []int {
	var days []int
	for _, t := range tasks {
		days = append(days, t.Crash)
	}
	return days
}

func copyTasks(tasks []api.Task) []api.Task {
	other := slices.Clone(tasks)
	for i := range other {
		other[i].After = slices.Clone(other[i].After)
	}
	return other
}

func sameTasks(a, b []api.Task) bool {
	return slices.EqualFunc(a, b, func(a, b api.Task) bool {
		return a.Normal == b.Normal && a.Crash == b.Crash && a.Rate == b.Rate && slices.Equal(a.After, b.After)
	})
}

// faulty returns projects that are not valid.
func faulty() [][]api.Task {
	list := [][]api.Task{nil, {}, make([]api.Task, 33), make([]api.Task, 1000)}
	for _, bad := range []api.Task{
		task(-1, -1, 0), task(-1, 0, 0), task(1001, 0, 0), task(math.MaxInt, 0, 0), task(math.MinInt, 0, 0),
		task(5, -1, 0), task(5, 6, 0), task(0, 1, 0), task(5, math.MinInt, 0), task(5, math.MaxInt, 0),
		task(5, 5, -1), task(5, 5, 10001), task(5, 5, math.MinInt), task(5, 5, math.MaxInt),
		task(5, 5, 5, -1), task(5, 5, 5, math.MinInt), task(5, 5, 5, math.MaxInt), task(5, 5, 5, 2), task(5, 5, 5, 3),
		task(5, 5, 5, 0, 0), task(5, 5, 5, 1, 0), task(5, 5, 5, 0, 1, 1), task(5, 5, 5, 0, 1, 2), task(5, 5, 5, -1, 0), task(5, 5, 5, 0, -1),
		task(5, 5, 5, 0, math.MaxInt), task(5, 5, 5, make([]int, 1000)...),
	} {
		list = append(list, []api.Task{task(1, 1, 1), task(2, 1, 1), bad}, []api.Task{task(1, 1, 1), task(2, 1, 1), bad, task(3, 3, 3)})
	}
	return append(list, []api.Task{task(1, 1, 1, 0)}, []api.Task{task(1, 1, 1), task(1, 1, 1, 1)}, []api.Task{task(1, 1, 1, 1), task(1, 1, 1)})
}

// badDeadlines are outside the range of deadlines.
func badDeadlines() []int { return []int{-1, 1000001, math.MinInt, math.MaxInt} }

// misfits returns days that do not fit the project of chained.
func misfits() [][]int {
	return [][]int{nil, {}, {4}, {4, 3, 0}, {5, 3}, {1, 3}, {4, 2}, {4, 4}, {-1, 3}, {4, math.MinInt}, {math.MaxInt, 3}, {0, 0}}
}

// longest returns how long the longest chain of tasks takes that ends with a task, by trying all chains.
func longest(tasks []api.Task, days []int, last int) int {
	most := 0
	for _, before := range tasks[last].After {
		most = max(most, longest(tasks, days, before))
	}
	return most + days[last]
}

// finishOf is a second method for small projects.
func finishOf(tasks []api.Task, days []int) int {
	most := 0
	for i := range tasks {
		most = max(most, longest(tasks, days, i))
	}
	return most
}

// priceOf is the document's definition of the cost of days.
func priceOf(tasks []api.Task, days []int) int {
	sum := 0
	for i, t := range tasks {
		sum += t.Rate * (t.Normal - days[i])
	}
	return sum
}

// solution is days that meet a deadline, or none.
type solution struct {
	found bool
	cost  int
	days  []int
}

// tryAll returns the lexicographically greatest of the cheapest days that meet a deadline, by trying all of them from the lexicographically greatest on.
func tryAll(tasks []api.Task, deadline int) solution {
	var best solution
	days := normals(tasks)
	for {
		if cost := priceOf(tasks, days); (!best.found || cost < best.cost) && finishOf(tasks, days) <= deadline {
			best = solution{true, cost, slices.Clone(days)}
		}
		i := len(days) - 1
		for i >= 0 && days[i] == tasks[i].Crash {
			days[i] = tasks[i].Normal
			i--
		}
		if i < 0 {
			return best
		}
		days[i]--
	}
}

// isFlow is the document's definition of a valid flow.
func isFlow(tasks []api.Task, f api.Flow) bool {
	n, links := len(tasks), 0
	for _, t := range tasks {
		links += len(t.After)
	}
	if len(f.Normal) != n || len(f.Crash) != n || len(f.In) != n || len(f.Out) != n || len(f.Links) != links {
		return false
	}
	in, out := slices.Clone(f.In), slices.Clone(f.Out)
	links = 0
	for i, t := range tasks {
		for _, before := range t.After {
			in[i] += f.Links[links]
			out[before] += f.Links[links]
			links++
		}
	}
	good := true
	for i, t := range tasks {
		through := f.Normal[i] + f.Crash[i]
		good = good && f.Normal[i] <= t.Rate && in[i] == through && out[i] == through
	}
	for _, number := range slices.Concat(f.Normal, f.Crash, f.Links, f.In, f.Out) {
		good = good && number >= 0 && number <= 1e9
	}
	return good
}

// worthOf is the document's definition of the worth of a flow, with numbers of any size.
func worthOf(tasks []api.Task, deadline int, f api.Flow) *big.Int {
	sum := new(big.Int)
	add := func(a, b int) {
		sum.Add(sum, new(big.Int).Mul(big.NewInt(int64(a)), big.NewInt(int64(b))))
	}
	for i, t := range tasks {
		add(f.Normal[i], t.Normal)
		add(f.Crash[i], t.Crash)
		add(-deadline, f.In[i])
	}
	return sum
}

// sameFlow compares two flows.
func sameFlow(a, b api.Flow) bool {
	return slices.Equal(a.Normal, b.Normal) && slices.Equal(a.Crash, b.Crash) && slices.Equal(a.Links, b.Links) &&
		slices.Equal(a.In, b.In) && slices.Equal(a.Out, b.Out)
}

func copyFlow(f api.Flow) api.Flow {
	return api.Flow{Normal: slices.Clone(f.Normal), Crash: slices.Clone(f.Crash), Links: slices.Clone(f.Links), In: slices.Clone(f.In), Out: slices.Clone(f.Out)}
}

// wantInt tests a number and its error against those that are right.
func wantInt(t *testing.T, name string, got int, err api.Errno, want int, wantErr api.Errno) {
	t.Helper()
	if got != want || err != wantErr {
		t.Errorf("%s: %d, error %d, want %d, error %d", name, got, err, want, wantErr)
	}
}

// wantList tests a list and its error against those that are right.
func wantList[T comparable](t *testing.T, name string, got []T, err api.Errno, want []T, wantErr api.Errno) {
	t.Helper()
	if !slices.Equal(got, want) || err != wantErr {
		t.Errorf("%s: %v, error %d, want %v, error %d", name, got, err, want, wantErr)
	}
}

// wantNoSchedule tests that a schedule is the zero value.
func wantNoSchedule(t *testing.T, s api.Schedule, err, wantErr api.Errno) {
	t.Helper()
	if len(s.Start) != 0 || len(s.Days) != 0 || s.Finish != 0 || s.Cost != 0 || err != wantErr {
		t.Errorf("Best: %v, error %d, want nothing, error %d", s, err, wantErr)
	}
}

// wantNoFlow tests that a flow is the zero value.
func wantNoFlow(t *testing.T, f api.Flow, err, wantErr api.Errno) {
	t.Helper()
	if !sameFlow(f, api.Flow{}) || err != wantErr {
		t.Errorf("Proof: %v, error %d, want nothing, error %d", f, err, wantErr)
	}
}

// wantBest tests Best against a solution.
func wantBest(t *testing.T, tasks []api.Task, deadline int, want solution) {
	t.Helper()
	s, err := plan.Best(tasks, deadline)
	if !want.found {
		wantNoSchedule(t, s, err, api.ErrNone)
		return
	}
	if err != api.OK || s.Cost != want.cost || !slices.Equal(s.Days, want.days) {
		t.Fatalf("Best(%v, %d): %v, error %d, want %v at %d", tasks, deadline, s, err, want.days, want.cost)
	}
	wantSchedule(t, tasks, deadline, s)
}

// wantSchedule tests that a schedule is the earliest one of its days, that it meets a deadline and costs what it says.
func wantSchedule(t *testing.T, tasks []api.Task, deadline int, s api.Schedule) {
	t.Helper()
	if len(s.Days) != len(tasks) || len(s.Start) != len(tasks) {
		t.Fatalf("Best(%v, %d): %v", tasks, deadline, s)
	}
	finish := 0
	for i, task := range tasks {
		start := 0
		for _, before := range task.After {
			start = max(start, s.Start[before]+s.Days[before])
		}
		if s.Start[i] != start || s.Days[i] < task.Crash || s.Days[i] > task.Normal {
			t.Fatalf("Best(%v, %d): task %d begins on day %d and takes %d", tasks, deadline, i, s.Start[i], s.Days[i])
		}
		finish = max(finish, start+s.Days[i])
	}
	if s.Finish != finish || finish > deadline || s.Cost != priceOf(tasks, s.Days) {
		t.Fatalf("Best(%v, %d): %v finishes on day %d", tasks, deadline, s, finish)
	}
}

// wantProof tests that Proof returns a flow that proves a cost: promises L2, P2 and P3.
func wantProof(t *testing.T, tasks []api.Task, deadline, cost int) {
	t.Helper()
	f, err := plan.Proof(tasks, deadline)
	if err != api.OK || !isFlow(tasks, f) || worthOf(tasks, deadline, f).Cmp(big.NewInt(int64(cost))) != 0 {
		t.Fatalf("Proof(%v, %d): %v, error %d, does not prove %d", tasks, deadline, f, err, cost)
	}
	n, err := plan.Worth(tasks, deadline, f)
	wantInt(t, "Worth", n, err, cost, api.OK)
}

// wantGreatest is promise L5: with the days of the tasks before, no task can take more days at no greater cost.
func wantGreatest(t *testing.T, tasks []api.Task, deadline int, s api.Schedule) {
	t.Helper()
	others := copyTasks(tasks)
	for i := range others {
		if s.Days[i] < tasks[i].Normal {
			others[i].Crash = s.Days[i] + 1
			if other, err := plan.Best(others, deadline); err == api.OK && other.Cost <= s.Cost {
				t.Fatalf("Best(%v, %d): %v, but %v costs %d", tasks, deadline, s.Days, other.Days, other.Cost)
			}
		}
		others[i].Crash = s.Days[i]
	}
}
