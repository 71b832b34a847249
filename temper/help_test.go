package temper_test

import (
	"math/rand"
	"slices"
	"testing"

	"clavecin/api"
	"clavecin/temper"
)

// The signatures that the document lists.
var (
	_ func(api.Ring) api.Errno                         = temper.Check
	_ func(api.Ring, []int) ([]int, api.Errno)         = temper.Errors
	_ func(api.Ring, []int) (int, api.Errno)           = temper.Cost
	_ func(api.Ring) ([]int, int, api.Errno)           = temper.Best
	_ func(api.Ring, []int) (int, int, api.Errno)      = temper.Better
	_ func([]int, int) ([]api.Tone, api.Errno)         = temper.Tones
	_ func([]int, int) (bool, api.Errno)               = temper.Closes
	_ func(uint64, []int, int) ([]uint64, api.Errno)   = temper.Scale
	_ func(uint64, []int, int) ([]uint64, api.Errno)   = temper.Beats
	_ func(int, []api.Link) ([]int, api.Errno)         = temper.Bearings
	_ func(int, []api.Link, int, int) (int, api.Errno) = temper.Passage
)

func newRand() *rand.Rand { return rand.New(rand.NewSource(1)) }

func repeat(n, value int) []int { return slices.Repeat([]int{value}, n) }

// three is the ring of the document's first example.
func three() api.Ring {
	return api.Ring{Notes: 3, Span: 2, Low: 0, High: 3, Total: 3, Pure: 2, Worst: 1000, Fifth: repeat(3, 1), Third: repeat(3, 1)}
}

// keyboard is the usual ring of twelve notes, with a unit of a twelfth of the Pythagorean comma.
func keyboard() api.Ring {
	return api.Ring{Notes: 12, Span: 4, Low: 0, High: 3, Total: 12, Pure: 11, Worst: 1000, Fifth: repeat(12, 1), Third: repeat(12, 1)}
}

// anyRing returns a valid ring of so many notes that some steps may fit.
func anyRing(r *rand.Rand, notes int) api.Ring {
	g := api.Ring{Notes: notes, Span: 2 + r.Intn(min(3, notes-2)), Low: r.Intn(25) - 12}
	g.High = g.Low + r.Intn(4)
	g.Total = notes*g.Low + r.Intn(notes*(g.High-g.Low)+1)
	if g.Total < -288 || g.Total > 288 {
		return anyRing(r, notes)
	}
	g.Pure = min(100, max(-100, g.Span*(g.Low+g.High)/2+r.Intn(11)-5))
	g.Worst = []int{1000, 3, 5, 8, 20}[r.Intn(5)]
	most := []int{1, 2, 3, 1000}[r.Intn(4)]
	g.Fifth, g.Third = anyList(r, notes, 0, most), anyList(r, notes, 0, most)
	return g
}

func anyList(r *rand.Rand, n, low, high int) []int {
	list := make([]int, n)
	for i := range list {
		list[i] = low + r.Intn(high-low+1)
	}
	return list
}

// copyRing returns a ring that shares no memory.
func copyRing(g api.Ring) api.Ring {
	g.Fifth, g.Third = slices.Clone(g.Fifth), slices.Clone(g.Third)
	return g
}

func sameRing(a, b api.Ring) bool {
	fifth, third := slices.Equal(a.Fifth, b.Fifth), slices.Equal(a.Third, b.Third)
	return fifth && third && a.Notes == b.Notes && a.Span == b.Span && a.Low == b.Low && a.High == b.High &&
		a.Total == b.Total && a.Pure == b.Pure && a.Worst == b.Worst
}

// valid is the document's definition, word by word.
func valid(g api.Ring) bool {
	if g.Notes < 3 || g.Notes > 24 || g.Span < 2 || g.Span > 4 || g.Span >= g.Notes {
		return false
	}
	if g.Low < -12 || g.Low > 12 || g.High < g.Low || g.High > g.Low+3 {
		return false
	}
	if g.Total < -288 || g.Total > 288 || g.Pure < -100 || g.Pure > 100 || g.Worst < 0 || g.Worst > 1000 {
		return false
	}
	if len(g.Fifth) != g.Notes || len(g.Third) != g.Notes {
		return false
	}
	for i := range g.Notes {
		if g.Fifth[i] < 0 || g.Fifth[i] > 1000 || g.Third[i] < 0 || g.Third[i] > 1000 {
			return false
		}
	}
	return true
}

// fits is the document's definition of steps that fit.
func fits(g api.Ring, steps []int) bool {
	sum := 0
	for _, s := range steps {
		if s < g.Low || s > g.High {
			return false
		}
		sum += s
	}
	return len(steps) == g.Notes && sum == g.Total
}

// cost is the document's definition of the errors and of the cost of steps that fit, and whether they are allowed.
func cost(g api.Ring, steps []int) (errors []int, total int, allowed bool) {
	allowed = true
	for i := range g.Notes {
		e := g.Pure
		for k := i; k < i+g.Span; k++ {
			e -= steps[k%g.Notes]
		}
		errors = append(errors, e)
		total += g.Fifth[i]*steps[i]*steps[i] + g.Third[i]*e*e
		if e > g.Worst || e < -g.Worst {
			allowed = false
		}
	}
	return errors, total, allowed
}

// all calls f with all steps from Low to High, in lexicographic order; f does not keep them.
func all(g api.Ring, f func([]int)) {
	steps := make([]int, 0, g.Notes)
	var fill func()
	fill = func() {
		if len(steps) == g.Notes {
			f(steps)
			return
		}
		for s := g.Low; s <= g.High; s++ {
			steps = append(steps, s)
			fill()
			steps = steps[:len(steps)-1]
		}
	}
	fill()
}

// wantInt tests a number and its error against those that are right.
func wantInt(t *testing.T, name string, got int, err api.Errno, want int, wantErr api.Errno) {
	t.Helper()
	if got != want || err != wantErr {
		t.Errorf("%s: %d, error %d, want %d, error %d", name, got, err, want, wantErr)
	}
}

// wantList tests a list and its error against those that are right.
func wantList[T comparable](t *testing.T, name string, got []T, err api.Errno, want []T, wantErr api.Errno) {
	t.Helper()
	if !slices.Equal(got, want) || err != wantErr {
		t.Errorf("%s: %v, error %d, want %v, error %d", name, got, err, want, wantErr)
	}
}
