package plan_test

import (
	"math"
	"math/big"
	"slices"
	"testing"

	"clavecin/api"
	"clavecin/plan"
)

// chainedFlow is a flow for the project of chained that is worth 10 for the deadline 6.
func chainedFlow() api.Flow {
	return api.Flow{Normal: []int{10, 0}, Crash: []int{0, 10}, Links: []int{10}, In: []int{10, 0}, Out: []int{0, 10}}
}

func TestWorthExamples(t *testing.T) {
	big := api.Flow{Normal: []int{0}, Crash: []int{1e9}, In: []int{1e9}, Out: []int{1e9}}
	triple := []api.Task{task(5, 1, 3), task(6, 2, 2), task(7, 0, 4, 0, 1)}
	for _, c := range []struct {
		tasks    []api.Task
		deadline int
		flow     api.Flow
		want     int
	}{
		{chained(), 6, chainedFlow(), 10},
		{chained(), 7, chainedFlow(), 0},
		{chained(), 8, chainedFlow(), -10},
		{chained(), 5, chainedFlow(), 20},
		{chained(), 4, chainedFlow(), 30}, // a deadline that cannot be met
		{chained(), 0, chainedFlow(), 70},
		{chained(), 1000000, chainedFlow(), 70 - 10000000},
		{chained(), 6, api.Flow{Normal: []int{0, 0}, Crash: []int{0, 0}, Links: []int{0}, In: []int{0, 0}, Out: []int{0, 0}}, 0},
		{chained(), 1, api.Flow{Normal: []int{1, 0}, Crash: []int{4, 7}, Links: []int{2}, In: []int{5, 5}, Out: []int{3, 7}}, 4 + 8 + 21 - 10},
		{triple, 2, api.Flow{Normal: []int{1, 2, 4}, Crash: []int{1, 1, 1}, Links: []int{2, 3}, In: []int{2, 3, 0}, Out: []int{0, 0, 5}}, 5 + 1 + 12 + 2 + 28 - 10},
		{triple, 2, api.Flow{Normal: []int{0, 0, 0}, Crash: []int{3, 1, 2}, Links: []int{2, 0}, In: []int{3, 1, 0}, Out: []int{1, 1, 2}}, 3 + 2 - 8},
		{[]api.Task{task(1000, 1000, 0)}, 0, big, 1e12},
		{[]api.Task{task(1000, 1000, 0)}, 1000000, big, 1e12 - 1e15},
	} {
		n, err := plan.Worth(c.tasks, c.deadline, c.flow)
		wantInt(t, "Worth", n, err, c.want, api.OK)
	}
}

// TestBadFlows changes one number of a valid flow, or the length of a list.
func TestBadFlows(t *testing.T) {
	lists := func(f *api.Flow) []*[]int { return []*[]int{&f.Normal, &f.Crash, &f.Links, &f.In, &f.Out} }
	valid := chainedFlow()
	for k := range lists(&valid) {
		for i := range *lists(&valid)[k] {
			for _, bad := range []int{-1, 1, 9, 11, 1000000001, math.MinInt, math.MaxInt} {
				f := chainedFlow()
				(*lists(&f)[k])[i] = bad
				n, err := plan.Worth(chained(), 6, f)
				wantInt(t, "Worth", n, err, 0, api.ErrForm)
			}
		}
		for _, change := range []func([]int) []int{
			func(l []int) []int { return nil },
			func(l []int) []int { return l[:len(l)-1] },
			func(l []int) []int { return append(l, 0) },
			func(l []int) []int { return append(l, l...) },
		} {
			f := chainedFlow()
			*lists(&f)[k] = change(*lists(&f)[k])
			n, err := plan.Worth(chained(), 6, f)
			wantInt(t, "Worth", n, err, 0, api.ErrForm)
		}
	}
	n, err := plan.Worth(chained(), 6, api.Flow{})
	wantInt(t, "Worth", n, err, 0, api.ErrForm)
	for _, f := range []api.Flow{
		{Normal: []int{11, 0}, Crash: []int{0, 11}, Links: []int{11}, In: []int{11, 0}, Out: []int{0, 11}},              // more than the Rate
		{Normal: []int{10, 1}, Crash: []int{0, 9}, Links: []int{10}, In: []int{10, 0}, Out: []int{0, 10}},               // more than a Rate of 0
		{Normal: []int{-1, 0}, Crash: []int{1, 0}, Links: []int{0}, In: []int{0, 0}, Out: []int{0, 0}},                  // less than 0, though it is balanced
		{Normal: []int{1, 0}, Crash: []int{-1, 0}, Links: []int{0}, In: []int{0, 0}, Out: []int{0, 0}},                  // less than 0
		{Normal: []int{0, 0}, Crash: []int{0, 0}, Links: []int{-1}, In: []int{0, 1}, Out: []int{1, 0}},                  // less than 0
		{Normal: []int{0, 0}, Crash: []int{1, 1}, Links: []int{2}, In: []int{1, -1}, Out: []int{-1, 1}},                 // less than 0
		{Normal: []int{0, 0}, Crash: []int{1, 2}, Links: []int{1}, In: []int{1, 0}, Out: []int{0, 1}},                   // more than comes in
		{Normal: []int{0, 0}, Crash: []int{2, 1}, Links: []int{1}, In: []int{2, 0}, Out: []int{0, 1}},                   // less goes out
		{Normal: []int{0, 0}, Crash: []int{1e9 + 1, 0}, Links: []int{0}, In: []int{1e9 + 1, 0}, Out: []int{1e9 + 1, 0}}, // more than 10^9
		{Normal: []int{0, 0}, Crash: []int{0, 1}, Links: []int{1}, In: []int{1, 0}, Out: []int{0, 1}},                   // past the first task
	} {
		n, err := plan.Worth(chained(), 6, f)
		wantInt(t, "Worth", n, err, 0, api.ErrForm)
	}
}

// TestGreatFlow: the sums of a flow may be much more than 10^9.
func TestGreatFlow(t *testing.T) {
	tasks := slices.Repeat([]api.Task{task(1000, 1000, 10000)}, 32)
	f := api.Flow{Normal: make([]int, 32), Crash: slices.Repeat([]int{1e9}, 32), In: slices.Repeat([]int{1e9}, 32), Out: slices.Repeat([]int{1e9}, 32)}
	for _, deadline := range []int{0, 1000, 1000000} {
		n, err := plan.Worth(tasks, deadline, f)
		wantInt(t, "Worth", n, err, 32e9*(1000-deadline), api.OK)
	}
	for i := range 31 {
		tasks[31].After = append(tasks[31].After, i)
	}
	f.Links, f.In[31] = slices.Repeat([]int{1e9}, 31), 0
	n, err := plan.Worth(tasks, 0, f)
	wantInt(t, "Worth", n, err, 0, api.ErrForm)
	f.Out = make([]int, 32) // the last task would need 31 times 10^9
	f.Crash[31], f.Out[31] = 31e9, 31e9
	n, err = plan.Worth(tasks, 0, f)
	wantInt(t, "Worth", n, err, 0, api.ErrForm)
}

// anyFlow returns a valid flow: some ways from the start to the end, added up.
func anyFlow(tasks []api.Task, between func(low, high int) int) api.Flow {
	count, links := len(tasks), 0
	for _, t := range tasks {
		links += len(t.After)
	}
	f := api.Flow{Normal: make([]int, count), Crash: make([]int, count), Links: make([]int, links), In: make([]int, count), Out: make([]int, count)}
	for range between(0, 6) {
		amount := between(1, 5)
		at := between(0, count-1)
		f.Out[at] += amount
		for at >= 0 {
			through := f.Crash
			if f.Normal[at]+amount <= tasks[at].Rate && between(0, 1) == 0 {
				through = f.Normal
			}
			through[at] += amount
			k := between(-1, len(tasks[at].After)-1)
			if k < 0 {
				f.In[at] += amount
				break
			}
			place := k
			for _, t := range tasks[:at] {
				place += len(t.After)
			}
			f.Links[place] += amount
			at = tasks[at].After[k]
		}
	}
	return f
}

// TestWorthOfAny compares with the document's definition, for flows that are valid and others.
func TestWorthOfAny(t *testing.T) {
	r := newRand()
	good := 0
	for range 4000 {
		tasks := anyTasks(r, between(r, 1, 10), 20, 10, between(r, 0, 100))
		f := anyFlow(tasks, func(low, high int) int { return between(r, low, high) })
		if !isFlow(tasks, f) {
			t.Fatalf("%v for %v: the test is wrong", f, tasks)
		}
		for _, list := range [][]int{f.Normal, f.Crash, f.Links, f.In, f.Out} {
			if len(list) > 0 && r.Intn(10) == 0 {
				list[r.Intn(len(list))] += between(r, -1, 1)
			}
		}
		deadline := between(r, 0, 60)
		n, err := plan.Worth(tasks, deadline, f)
		if !isFlow(tasks, f) {
			wantInt(t, "Worth", n, err, 0, api.ErrForm)
			continue
		}
		good++
		if err != api.OK || worthOf(tasks, deadline, f).Cmp(big.NewInt(int64(n))) != 0 {
			t.Fatalf("Worth(%v, %d, %v): %d, error %d", tasks, deadline, f, n, err)
		}
		if s, err := plan.Best(tasks, deadline); err == api.OK && s.Cost < n {
			t.Fatalf("Best(%v, %d) costs %d, but a flow is worth %d", tasks, deadline, s.Cost, n)
		}
	}
	if good < 1000 || good > 3500 {
		t.Errorf("%d flows of 4000 are valid: this tests too little", good)
	}
}

// TestProofElsewhere: a proof is a valid flow for each deadline, and is not worth more than what is cheapest for it.
func TestProofElsewhere(t *testing.T) {
	r := newRand()
	for range 200 {
		tasks := anyTasks(r, between(r, 2, 12), 12, 9, between(r, 0, 60))
		fastest, _ := plan.Fastest(tasks)
		_, normal, _ := plan.Earliest(tasks, normals(tasks))
		f, err := plan.Proof(tasks, between(r, fastest, normal))
		if err != api.OK || !isFlow(tasks, f) {
			t.Fatalf("Proof(%v): %v, error %d", tasks, f, err)
		}
		for deadline := fastest; deadline <= normal+2; deadline++ {
			n, err := plan.Worth(tasks, deadline, f)
			s, errBest := plan.Best(tasks, deadline)
			if err != api.OK || errBest != api.OK || n > s.Cost {
				t.Fatalf("Worth(%v, %d): %d, error %d; Best costs %d, error %d", tasks, deadline, n, err, s.Cost, errBest)
			}
		}
	}
}
