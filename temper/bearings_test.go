package temper_test

import (
	"fmt"
	"math"
	"math/rand"
	"slices"
	"testing"

	"clavecin/api"
	"clavecin/temper"
)

// plan is a bearing plan.
type plan struct {
	notes int
	links []api.Link
}

func badPlans() []plan {
	link := []api.Link{{A: 0, B: 1, Weight: 1}}
	list := []plan{{0, nil}, {-1, nil}, {65, nil}, {math.MinInt, nil}, {math.MaxInt, link}, {0, link}, {1, link}, {2, slices.Repeat(link, 513)}}
	for _, n := range []int{-1, 2, math.MinInt, math.MaxInt} {
		list = append(list, plan{2, append(slices.Clone(link), api.Link{A: n})}, plan{2, append(slices.Clone(link), api.Link{B: n})})
	}
	for _, n := range []int{-1, 1000001, math.MinInt, math.MaxInt} {
		list = append(list, plan{2, append(slices.Clone(link), api.Link{A: 1, Weight: n})})
	}
	return list
}

func anyPlan(r *rand.Rand, notes, links int) plan {
	most := []int{1, 3, 1000001}[r.Intn(3)]
	p := plan{notes: notes}
	for range links {
		p.links = append(p.links, api.Link{A: r.Intn(notes), B: r.Intn(notes), Weight: r.Intn(most)})
	}
	return p
}

// passages returns for all pairs of notes the least greatest weight of a path between them, or -1.
func (p plan) passages(links []int) [][]int {
	w := make([][]int, p.notes)
	for i := range w {
		w[i] = repeat(p.notes, -1)
		w[i][i] = 0
	}
	try := func(a, b, weight int) {
		if w[a][b] < 0 || weight < w[a][b] {
			w[a][b] = weight
		}
	}
	for _, k := range links {
		l := p.links[k]
		try(l.A, l.B, l.Weight)
		try(l.B, l.A, l.Weight)
	}
	for k := range w {
		for i := range w {
			for j := range w {
				if w[i][k] >= 0 && w[k][j] >= 0 {
					try(i, j, max(w[i][k], w[k][j]))
				}
			}
		}
	}
	return w
}

// kruskal follows the document's words; it colours the notes that are connected.
func (p plan) kruskal() []int {
	colour := make([]int, p.notes)
	for i := range colour {
		colour[i] = i
	}
	weights := map[int]bool{}
	for _, l := range p.links {
		weights[l.Weight] = true
	}
	var rising, tree []int
	for w := range weights {
		rising = append(rising, w)
	}
	slices.Sort(rising)
	for _, w := range rising {
		for k, l := range p.links {
			if l.Weight != w || colour[l.A] == colour[l.B] {
				continue
			}
			tree = append(tree, k)
			old := colour[l.B]
			for i := range colour {
				if colour[i] == old {
					colour[i] = colour[l.A]
				}
			}
		}
	}
	slices.Sort(tree)
	return tree
}

func (p plan) allLinks() []int {
	var list []int
	for k := range p.links {
		list = append(list, k)
	}
	return list
}

func TestBearingsExample(t *testing.T) {
	links := []api.Link{{A: 0, B: 1, Weight: 5}, {A: 1, B: 2, Weight: 5}, {A: 0, B: 2, Weight: 5}}
	tree, err := temper.Bearings(3, links)
	wantList(t, "Bearings", tree, err, []int{0, 1}, api.OK)
	w, err := temper.Passage(3, links, 0, 2)
	wantInt(t, "Passage", w, err, 5, api.OK)
	links[0].Weight = 6
	tree, err = temper.Bearings(3, links)
	wantList(t, "Bearings", tree, err, []int{1, 2}, api.OK)
	tree, err = temper.Bearings(4, links)
	wantList(t, "Bearings of what is not connected", tree, err, nil, api.ErrNone)
	w, err = temper.Passage(4, links, 0, 3)
	wantInt(t, "Passage of what is not connected", w, err, 0, api.ErrNone)
	w, err = temper.Passage(4, links, 3, 3)
	wantInt(t, "Passage to the same note", w, err, 0, api.OK)
}

func TestBearingsEdges(t *testing.T) {
	tree, err := temper.Bearings(1, nil)
	wantList(t, "Bearings of a note", tree, err, nil, api.OK)
	w, err := temper.Passage(1, nil, 0, 0)
	wantInt(t, "Passage of a note", w, err, 0, api.OK)
	tree, err = temper.Bearings(1, []api.Link{{Weight: 7}})
	wantList(t, "Bearings with a link to itself", tree, err, nil, api.OK)
	w, err = temper.Passage(1, []api.Link{{Weight: 7}}, 0, 0)
	wantInt(t, "Passage with a link to itself", w, err, 0, api.OK)
	tree, err = temper.Bearings(2, nil)
	wantList(t, "Bearings without links", tree, err, nil, api.ErrNone)
	most := slices.Repeat([]api.Link{{A: 63, B: 62, Weight: 1000000}}, 512)
	w, err = temper.Passage(64, most, 62, 63)
	wantInt(t, "Passage at the limits", w, err, 1000000, api.OK)
	for k := range 63 {
		most[511-k] = api.Link{A: k, B: k + 1, Weight: k}
	}
	tree, err = temper.Bearings(64, most)
	if err != api.OK || len(tree) != 63 || tree[0] != 449 || tree[62] != 511 {
		t.Errorf("Bearings at the limits: %v, error %d", tree, err)
	}
}

func TestBearingsArg(t *testing.T) {
	for _, p := range badPlans() {
		tree, err := temper.Bearings(p.notes, p.links)
		wantList(t, fmt.Sprintf("Bearings(%v)", p), tree, err, nil, api.ErrArg)
		w, err := temper.Passage(p.notes, p.links, 0, 0)
		wantInt(t, fmt.Sprintf("Passage(%v)", p), w, err, 0, api.ErrArg)
	}
	for _, n := range []int{-1, 2, math.MinInt, math.MaxInt} {
		for _, links := range [][]api.Link{nil, {{A: 0, B: 1, Weight: 1}}} {
			for _, ends := range [][2]int{{n, 0}, {0, n}, {n, n}} {
				w, err := temper.Passage(2, links, ends[0], ends[1])
				wantInt(t, fmt.Sprintf("Passage from and to %v", ends), w, err, 0, api.ErrArg)
			}
		}
	}
}

// TestPlans compares with Kruskal's method, and tests promises M5 and M6.
func TestPlans(t *testing.T) {
	r := newRand()
	errs := map[api.Errno]int{}
	for range 600 {
		notes := 1 + r.Intn(9)
		p := anyPlan(r, notes, r.Intn(3*notes))
		if r.Intn(40) == 0 {
			p = anyPlan(r, 64, 64+r.Intn(449))
		}
		tree, err := temper.Bearings(p.notes, p.links)
		errs[err]++
		all := p.passages(p.allLinks())
		for i, row := range all {
			for j, want := range row {
				wantErr := api.OK
				if want < 0 {
					want, wantErr = 0, api.ErrNone
				}
				w, err := temper.Passage(p.notes, p.links, i, j)
				wantInt(t, fmt.Sprintf("Passage(%v, %d, %d)", p, i, j), w, err, want, wantErr)
			}
		}
		if slices.Contains(slices.Concat(all...), -1) {
			wantList(t, fmt.Sprintf("Bearings(%v)", p), tree, err, nil, api.ErrNone)
			continue
		}
		wantList(t, fmt.Sprintf("Bearings(%v)", p), tree, err, p.kruskal(), api.OK)
		wantTree(t, p, tree, all)
	}
	if errs[api.OK] < 50 || errs[api.ErrNone] < 50 {
		t.Errorf("too few cases of one kind: %v", errs)
	}
}

func wantTree(t *testing.T, p plan, tree []int, all [][]int) {
	t.Helper()
	if len(tree) != p.notes-1 {
		t.Errorf("Bearings(%v): %d links", p, len(tree))
	}
	onTree := p.passages(tree)
	for i, row := range onTree {
		if !slices.Equal(row, all[i]) {
			t.Errorf("Bearings(%v): passages from %d on the tree %v: %v, want %v", p, i, tree, row, all[i])
		}
	}
	for k, l := range p.links {
		if !slices.Contains(tree, k) && l.A != l.B && l.Weight < onTree[l.A][l.B] {
			t.Errorf("Bearings(%v): link %d is better than the tree %v", p, k, tree)
		}
	}
}
