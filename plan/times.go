package plan

import (
	"slices"

	"clavecin/api"
)

// Earliest returns the earliest starts and the finish.
func Earliest(tasks []api.Task, days []int) ([]int, int, api.Errno) {
	if err := checkDays(tasks, days); err != api.OK {
		return nil, 0, err
	}
	t := newTimes(tasks, days)
	return t.starts, t.finish(), api.OK
}

// Latest returns the latest starts.
func Latest(tasks []api.Task, days []int, finish int) ([]int, api.Errno) {
	if err := checkDeadline(tasks, finish); err != api.OK {
		return nil, err
	}
	if err := checkDays(tasks, days); err != api.OK {
		return nil, err
	}
	t := newTimes(tasks, days)
	if finish < t.finish() {
		return nil, api.ErrNone
	}
	return t.latest(finish), api.OK
}

// Critical returns a chain of tasks that fixes the finish.
func Critical(tasks []api.Task, days []int) ([]int, api.Errno) {
	if err := checkDays(tasks, days); err != api.OK {
		return nil, err
	}
	return newTimes(tasks, days).chain(), api.OK
}

// Cost returns the cost of days.
func Cost(tasks []api.Task, days []int) (int, api.Errno) {
	if err := checkDays(tasks, days); err != api.OK {
		return 0, err
	}
	return costOf(tasks, days), api.OK
}

// Fastest returns the earliest finish there can be.
func Fastest(tasks []api.Task) (int, api.Errno) {
	if Check(tasks) != api.OK {
		return 0, api.ErrArg
	}
	return newTimes(tasks, crashDays(tasks)).finish(), api.OK
}

// Spare returns how much each task can wait.
func Spare(tasks []api.Task, days []int) ([]int, api.Errno) {
	if err := checkDays(tasks, days); err != api.OK {
		return nil, err
	}
	t := newTimes(tasks, days)
	spare := t.latest(t.finish())
	for i, start := range t.starts {
		spare[i] -= start
	}
	return spare, api.OK
}

func costOf(tasks []api.Task, days []int) int {
	cost := 0
	for i, task := range tasks {
		cost += task.Rate * (task.Normal - days[i])
	}
	return cost
}

// times are the earliest starts of tasks that take some days.
type times struct {
	tasks  []api.Task
	days   []int
	starts []int
}

func newTimes(tasks []api.Task, days []int) *times {
	t := &times{tasks: tasks, days: days, starts: make([]int, len(tasks))}
	for i, task := range tasks {
		_, t.starts[i] = greatest(slices.Values(task.After), t.done)
	}
	return t
}

// done returns the day on which a task is done.
func (t *times) done(task int) int {
	return t.starts[task] + t.days[task]
}

// last returns the first of the tasks that are done last, and the day on which they are done.
func (t *times) last() (task, day int) {
	return greatest(upTo(len(t.tasks)), t.done)
}

func (t *times) finish() int {
	_, day := t.last()
	return day
}

// chain returns tasks that fix the finish, each the first one of those for which the next one waits.
func (t *times) chain() []int {
	task, _ := t.last()
	list := []int{task}
	for t.starts[task] > 0 {
		task, _ = greatest(slices.Values(t.tasks[task].After), t.done)
		list = append(list, task)
	}
	slices.Reverse(list)
	return list
}

// latest returns the latest starts with which everything is done on a day.
func (t *times) latest(finish int) []int {
	starts := make([]int, len(t.tasks))
	for i, days := range t.days {
		starts[i] = finish - days
	}
	for i, task := range slices.Backward(t.tasks) {
		for _, other := range task.After {
			starts[other] = min(starts[other], starts[i]-t.days[other])
		}
	}
	return starts
}
