package temper_test

import (
	"fmt"
	"math"
	"slices"
	"testing"

	"clavecin/api"
	"clavecin/temper"
)

// badRings returns rings each of which one part is just outside its range.
func badRings() []api.Ring {
	var list []api.Ring
	change := func(f func(*api.Ring)) {
		g := keyboard()
		f(&g)
		list = append(list, g)
	}
	for _, n := range []int{2, 1, 0, -1, 25, math.MinInt, math.MaxInt} {
		change(func(g *api.Ring) {
			g.Notes, g.Span, g.Total = n, 2, 0
			g.Fifth, g.Third = repeat(min(max(n, 0), 99), 1), repeat(min(max(n, 0), 99), 1)
		})
	}
	for _, n := range []int{1, 0, -1, 5, math.MinInt, math.MaxInt} {
		change(func(g *api.Ring) { g.Span = n })
	}
	for _, n := range []int{-13, 13, math.MinInt, math.MaxInt} {
		change(func(g *api.Ring) { g.Low, g.High, g.Total = n, n, 0 })
	}
	for _, n := range []int{-1, 4, math.MinInt, math.MaxInt} {
		change(func(g *api.Ring) { g.High = n })
	}
	for _, n := range []int{-289, 289, math.MinInt, math.MaxInt} {
		change(func(g *api.Ring) { g.Total = n })
	}
	for _, n := range []int{-101, 101, math.MinInt, math.MaxInt} {
		change(func(g *api.Ring) { g.Pure = n })
	}
	for _, n := range []int{-1, 1001, math.MinInt, math.MaxInt} {
		change(func(g *api.Ring) { g.Worst = n })
		change(func(g *api.Ring) { g.Fifth[0] = n })
		change(func(g *api.Ring) { g.Third[11] = n })
	}
	for _, n := range []int{0, 11, 13} {
		change(func(g *api.Ring) { g.Fifth = repeat(n, 1) })
		change(func(g *api.Ring) { g.Third = repeat(n, 1) })
	}
	change(func(g *api.Ring) { g.Notes = 11 })
	change(func(g *api.Ring) { *g = api.Ring{} })
	small := three()
	small.Span = 3
	return append(list, small)
}

func TestCheck(t *testing.T) {
	for _, g := range badRings() {
		if err := temper.Check(g); err != api.ErrArg || valid(g) {
			t.Errorf("Check(%v): %d", g, err)
		}
	}
	edges := []api.Ring{three(), keyboard()}
	for _, notes := range []int{3, 4, 5, 24} {
		for span := 2; span <= 4 && span < notes; span++ {
			for _, low := range []int{-12, 12} {
				g := api.Ring{Notes: notes, Span: span, Low: low, High: low, Total: -288, Pure: -100, Worst: 0, Fifth: repeat(notes, 0), Third: repeat(notes, 1000)}
				edges = append(edges, g)
				g.High, g.Total, g.Pure, g.Worst, g.Fifth, g.Third = low+3, 288, 100, 1000, g.Third, g.Fifth
				edges = append(edges, g)
			}
		}
	}
	for _, g := range edges {
		if err := temper.Check(g); err != api.OK || !valid(g) {
			t.Errorf("Check(%v): %d", g, err)
		}
	}
}

func TestErrorsAndCost(t *testing.T) {
	g := three()
	g.Pure, g.Fifth, g.Third = 4, []int{1, 10, 100}, []int{1000, 500, 700}
	got, err := temper.Errors(g, []int{0, 1, 2})
	wantList(t, "Errors", got, err, []int{3, 1, 2}, api.OK)
	c, err := temper.Cost(g, []int{0, 1, 2})
	wantInt(t, "Cost", c, err, 10+400+9000+500+2800, api.OK)

	r := newRand()
	for range 3000 {
		g := anyRing(r, 3+r.Intn(22))
		steps := anyList(r, g.Notes, g.Low, g.High)
		g.Total = 0
		for _, s := range steps {
			g.Total += s
		}
		if !valid(g) {
			continue
		}
		errors, total, allowed := cost(g, steps)
		got, err := temper.Errors(g, steps)
		wantList(t, fmt.Sprintf("Errors(%v, %v)", g, steps), got, err, errors, api.OK)
		wantErr := api.OK
		if !allowed {
			total, wantErr = 0, api.ErrNone
		}
		c, err := temper.Cost(g, steps)
		wantInt(t, fmt.Sprintf("Cost(%v, %v)", g, steps), c, err, total, wantErr)
	}
}

// TestWorst tests errors that are just allowed, above and below 0, and those that are not.
func TestWorst(t *testing.T) {
	for _, pure := range []int{-60, -3, 2, 100} {
		g := three()
		g.Pure = pure
		e := pure - 2
		g.Worst = max(e, -e)
		c, err := temper.Cost(g, repeat(3, 1))
		wantInt(t, "Cost just allowed", c, err, 3+3*e*e, api.OK)
		if g.Worst > 0 {
			g.Worst--
			c, err = temper.Cost(g, repeat(3, 1))
			wantInt(t, "Cost not allowed", c, err, 0, api.ErrNone)
			errors, err := temper.Errors(g, repeat(3, 1))
			wantList(t, "Errors of steps that are not allowed", errors, err, repeat(3, e), api.OK)
		}
	}
	// Only the last third, around the end of the circle, is not allowed; and it has no weight.
	g := keyboard()
	g.Total, g.Worst, g.Third = 9, 7, repeat(12, 0)
	steps := []int{0, 0, 1, 2, 1, 1, 1, 1, 1, 1, 0, 0}
	c, err := temper.Cost(g, steps)
	wantInt(t, "Cost", c, err, 0, api.ErrNone)
	g.Worst = 11
	c, err = temper.Cost(g, steps)
	wantInt(t, "Cost", c, err, 11, api.OK)
}

// badSteps returns steps that do not fit keyboard().
func badSteps() [][]int {
	list := [][]int{nil, repeat(11, 1), repeat(13, 1), repeat(12, 2), repeat(12, 0), append(repeat(11, 1), 1, 0), append(repeat(10, 1), 2)}
	for _, n := range []int{-1, 4, math.MinInt, math.MaxInt} {
		steps := repeat(12, 1)
		steps[0], steps[11] = n, 2-n
		list = append(list, steps)
	}
	return append(list, []int{math.MaxInt, math.MaxInt, 2, 1, 1, 1, 1, 1, 1, 1, 1, 2})
}

func TestFormBeforeNone(t *testing.T) {
	g := keyboard()
	g.Worst = 0 // no steps are allowed
	for _, steps := range badSteps() {
		if fits(g, steps) {
			t.Fatalf("%v fits", steps)
		}
		errors, err := temper.Errors(g, steps)
		wantList(t, fmt.Sprintf("Errors(%v)", steps), errors, err, nil, api.ErrForm)
		c, err := temper.Cost(g, steps)
		wantInt(t, fmt.Sprintf("Cost(%v)", steps), c, err, 0, api.ErrForm)
		i, j, err := temper.Better(g, steps)
		wantInt(t, fmt.Sprintf("Better(%v)", steps), i+j, err, 0, api.ErrForm)
	}
	i, j, err := temper.Better(g, repeat(12, 1))
	wantInt(t, "Better of steps that are not allowed", i+j, err, 0, api.ErrNone)
}

func TestArgBeforeForm(t *testing.T) {
	for _, g := range badRings() {
		for _, steps := range [][]int{nil, repeat(12, 1), repeat(12, 5), repeat(3, 1)} {
			errors, err := temper.Errors(g, steps)
			wantList(t, fmt.Sprintf("Errors(%v, %v)", g, steps), errors, err, nil, api.ErrArg)
			c, err := temper.Cost(g, steps)
			wantInt(t, fmt.Sprintf("Cost(%v, %v)", g, steps), c, err, 0, api.ErrArg)
			i, j, err := temper.Better(g, steps)
			wantInt(t, fmt.Sprintf("Better(%v, %v)", g, steps), i, err, 0, api.ErrArg)
			wantInt(t, fmt.Sprintf("Better(%v, %v)", g, steps), j, err, 0, api.ErrArg)
		}
		steps, c, err := temper.Best(g)
		wantList(t, fmt.Sprintf("Best(%v)", g), steps, err, nil, api.ErrArg)
		wantInt(t, fmt.Sprintf("Best(%v)", g), c, err, 0, api.ErrArg)
	}
}

// betterMove tries all pairs by the document's definition.
func betterMove(g api.Ring, steps []int) (int, int) {
	_, now, _ := cost(g, steps)
	for i := range steps {
		for j := range steps {
			moved := slices.Clone(steps)
			moved[i]--
			moved[j]++
			_, then, allowed := cost(g, moved)
			if i != j && fits(g, moved) && allowed && then < now {
				return i, j
			}
		}
	}
	return -1, -1
}

func TestBetter(t *testing.T) {
	i, j, err := temper.Better(three(), []int{3, 0, 0})
	wantList(t, "Better", []int{i, j}, err, []int{0, 1}, api.OK)
	i, j, err = temper.Better(three(), []int{0, 0, 3})
	wantList(t, "Better", []int{i, j}, err, []int{2, 0}, api.OK)
	i, j, err = temper.Better(three(), []int{1, 1, 1})
	wantList(t, "Better", []int{i, j}, err, []int{-1, -1}, api.OK)

	r := newRand()
	found := map[bool]int{}
	for range 4000 {
		g := anyRing(r, 3+r.Intn(22))
		steps := anyList(r, g.Notes, g.Low, g.High)
		g.Total = 0
		for _, s := range steps {
			g.Total += s
		}
		_, _, allowed := cost(g, steps)
		if !valid(g) || !allowed {
			continue
		}
		i, j, err := temper.Better(g, steps)
		wantI, wantJ := betterMove(g, steps)
		wantList(t, fmt.Sprintf("Better(%v, %v)", g, steps), []int{i, j}, err, []int{wantI, wantJ}, api.OK)
		found[wantI >= 0]++
	}
	if found[true] < 100 || found[false] < 100 {
		t.Errorf("too few cases of one kind: %v", found)
	}
}
