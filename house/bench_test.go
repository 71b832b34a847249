package house_test

import (
	"fmt"
	"testing"

	"clavecin/api"
	"clavecin/house"
	"clavecin/panel"
	"clavecin/plan"
)

func TestPlan(t *testing.T) {
	wantTalk(t, house.New(), `
> curve
! 1
> task 4 2 10
> task 3 3 0 0
> plan 6
days 3 3
start 0 3
finish 6 cost 10
> plan 4
! 6
> plan -1
! 1
> plan 1000001
! 1
> plan 1000000
days 4 3
start 0 4
finish 7 cost 0
> curve
point 5 20
point 7 0
> task 9 8 7 0 1
> curve
point 13 27
point 15 7
point 16 0
> task 1 1 1 1 0
> plan 6
! 1
> curve
! 1
> clear tasks
> task 5 1 3
> task 5 1 2
> task 0 0 0 0 1
> plan 4
days 4 4 0
start 0 0 4
finish 4 cost 5
> curve
point 1 20
point 5 0
`)
}

// TestAnyPlan compares with package plan.
func TestAnyPlan(t *testing.T) {
	r := newRand()
	for range 100 {
		h := house.New()
		var tasks []api.Task
		for i := range between(r, 1, 8) {
			task := api.Task{Normal: between(r, 0, 9), Rate: between(r, 0, 20)}
			task.Crash = between(r, 0, task.Normal)
			for other := range i {
				if r.Intn(3) == 0 {
					task.After = append(task.After, other)
				}
			}
			tasks = append(tasks, task)
			wantSilent(t, h, fmt.Sprintf("task %d %d %d%s", task.Normal, task.Crash, task.Rate, words(task.After)))
		}
		points, _ := plan.Curve(tasks)
		corners := ""
		for _, p := range points {
			corners += fmt.Sprintf("point %d %d\n", p.Finish, p.Cost)
		}
		wantReply(t, h, "curve", corners)
		for deadline := range 30 {
			line := fmt.Sprintf("plan %d", deadline)
			best, err := plan.Best(tasks, deadline)
			if err != api.OK {
				wantFailure(t, h, err, line)
				continue
			}
			wantReply(t, h, line, fmt.Sprintf("days%s\nstart%s\nfinish %d cost %d\n", words(best.Days), words(best.Start), best.Finish, best.Cost))
		}
	}
}

func TestPanel(t *testing.T) {
	wantTalk(t, house.New(), `
> panel 5 3 1
value 0 waste 15
counts
> shape 2 3 10 fixed
> panel 5 3 1
value 20 waste 3
counts 2
> panel 3 2 0
value 0 waste 6
counts 0
> shape 2 3 7 turn
> panel 3 2 0
value 7 waste 0
counts 0 1
> panel 3 5 0
value 17 waste 3
counts 1 1
> panel 0 3 1
! 1
> panel 5 65 1
! 1
> panel 5 3 9
! 1
> panel 5 3 -1
! 1
> shape 65 1 1 turn
> panel 5 3 1
! 1
> clear shapes
> panel 64 64 8
value 0 waste 4096
counts
`)
}

// TestSaw takes the pieces from the store to the bench.
func TestSaw(t *testing.T) {
	wantTalk(t, house.New(), `
> saw 5 3 1
! 6
> saw 0 3 1
! 1
> shape 2 3 10 fixed
> shape 9 9 9 turn
> shape 1 3 4 fixed
> shape 1 3 4 fixed
> saw 5 3 1
! 10
> post outside store s0 2
entry 0
> saw 5 3 1
entry 1
> lots
lot bench s0 2
lot outside s0 -2
> saw 1 1 0
! 6
> saw 65 1 0
! 1
> post outside store s0 5 outside store s2 5
entry 2
> panel 5 3 0
value 24 waste 0
counts 2 0 1 0
> saw 5 3 0
entry 3
> book
post outside store s0 2
post store bench s0 2
post outside store s0 5 outside store s2 5
post store bench s0 2 store bench s2 1
> saw 4 3 0
entry 4
> saw 4 3 0
! 10
`)
}

// TestAnyPanel compares with package panel.
func TestAnyPanel(t *testing.T) {
	r := newRand()
	for range 100 {
		h := houseOf(t, "post out store s0 9999 out store s1 9999 out store s2 9999 out store s3 9999")
		shapes := make([]api.Shape, r.Intn(5))
		for i := range shapes {
			shapes[i] = api.Shape{W: between(r, 1, 6), H: between(r, 1, 6), Value: between(r, 0, 30), Turn: r.Intn(2) == 0}
			wantSilent(t, h, fmt.Sprintf("shape %d %d %d %s", shapes[i].W, shapes[i].H, shapes[i].Value, map[bool]string{true: "turn", false: "fixed"}[shapes[i].Turn]))
		}
		w, height, kerf := between(r, 1, 15), between(r, 1, 15), between(r, 0, 3)
		cuts, value, _ := panel.Best(w, height, kerf, shapes)
		waste, _ := panel.Waste(w, height, kerf, shapes, cuts)
		counts, _ := panel.Counts(w, height, kerf, shapes, cuts)
		size := fmt.Sprintf(" %d %d %d", w, height, kerf)
		wantReply(t, h, "panel"+size, fmt.Sprintf("value %d waste %d\ncounts%s\n", value, waste, words(counts)))
		was, moved := h.Book(), ""
		for i, count := range counts {
			if count > 0 {
				moved += fmt.Sprintf(" store bench s%d %d", i, count)
			}
		}
		if moved == "" {
			wantFailure(t, h, api.ErrNone, "saw"+size)
			continue
		}
		wantReply(t, h, "saw"+size, "entry 1\n")
		wantReply(t, h, "book", was+"post"+moved+"\n")
	}
}
