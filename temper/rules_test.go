package temper_test

import (
	"slices"
	"testing"

	"clavecin/api"
	"clavecin/temper"
)

// TestArgumentsStay is rules R5 and R6: arguments stay as they are, and results are new memory.
func TestArgumentsStay(t *testing.T) {
	g, steps := keyboard(), repeat(12, 1)
	links := []api.Link{{A: 2, B: 1, Weight: 9}, {A: 1, B: 0, Weight: 3}, {A: 0, B: 2, Weight: 1}}
	was, wasLinks := copyRing(g), slices.Clone(links)
	for range 2 {
		best, c, err := temper.Best(g)
		wantList(t, "Best", best, err, repeat(12, 1), api.OK)
		wantInt(t, "Best", c, err, 600, api.OK)
		errors, err := temper.Errors(g, steps)
		wantList(t, "Errors", errors, err, repeat(12, 7), api.OK)
		i, j, err := temper.Better(g, steps)
		wantList(t, "Better", []int{i, j}, err, []int{-1, -1}, api.OK)
		tones, err := temper.Tones(steps, 12)
		wantList(t, "Tones", tones[:2], err, []api.Tone{{Den: 1}, {Two: 7, Den: 12}}, api.OK)
		scale, err := temper.Scale(1000, steps, 12)
		wantList(t, "Scale", scale[:2], err, []uint64{1000, 1059}, api.OK)
		beats, err := temper.Beats(1000, steps, 12)
		wantList(t, "Beats", beats[:2], err, []uint64{4, 6}, api.OK)
		tree, err := temper.Bearings(3, links)
		wantList(t, "Bearings", tree, err, []int{1, 2}, api.OK)
		w, err := temper.Passage(3, links, 1, 2)
		wantInt(t, "Passage", w, err, 3, api.OK)
		if !sameRing(g, was) || !slices.Equal(steps, repeat(12, 1)) || !slices.Equal(links, wasLinks) {
			t.Fatal("an argument was changed")
		}
		for _, list := range [][]int{best, errors, tree} {
			clear(list) // must not matter to the second round
		}
		clear(tones)
		clear(scale)
		clear(beats)
	}
}

// TestShared is rule R5 for steps with room behind them: what lies there stays.
func TestShared(t *testing.T) {
	room := append(repeat(12, 1), 77)
	steps := room[:12]
	temper.Better(keyboard(), steps)
	temper.Tones(steps, 12)
	temper.Beats(1000, steps, 12)
	if room[12] != 77 {
		t.Error("memory behind an argument was changed")
	}
}

// TestNilAndEmpty is rule R4.
func TestNilAndEmpty(t *testing.T) {
	for _, empty := range [][]int{nil, {}} {
		g := three()
		_, err := temper.Cost(g, empty)
		wantInt(t, "Cost", 0, err, 0, api.ErrForm)
		g.Third = empty
		wantInt(t, "Check", 0, temper.Check(g), 0, api.ErrArg)
		_, err = temper.Closes(empty, 12)
		wantInt(t, "Closes", 0, err, 0, api.ErrArg)
	}
	tree, err := temper.Bearings(1, []api.Link{})
	wantList(t, "Bearings", tree, err, nil, api.OK)
}
