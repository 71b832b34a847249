package wire_test

import (
	"slices"
	"testing"

	"clavecin/api"
	"clavecin/wire"
)

// TestArgumentsStay is rules R5 and R6: arguments stay as they are, and results are new memory.
func TestArgumentsStay(t *testing.T) {
	s, picks := spinet(), []api.Pick{{}, {Gauge: 1}, {Metal: 1, Gauge: 1}}
	pieces := []int{3, 3, 4, 7, 7, 6}
	wasScaling, wasPicks, wasPieces := copyScaling(s), slices.Clone(picks), slices.Clone(pieces)
	_, want, least := forwards(s)
	for range 2 {
		best, n, err := wire.Best(s)
		wantList(t, "Best", best, err, want, api.OK)
		wantInt(t, "Best", n, err, least, api.OK)
		lots, err := wire.Needs(s, picks, 5)
		wantList(t, "Needs", lots, err, []api.Lot{lot("m0g350", 9005), lot("m0g300", 5505), lot("m1g300", 3005)}, api.OK)
		list, n, err := wire.Coils(pieces, 10)
		wantList(t, "Coils", list, err, []int{0, 1, 2, 0, 1, 2}, api.OK)
		wantInt(t, "Coils", n, err, 3, api.OK)
		n, err = wire.Floor(pieces, 10)
		wantInt(t, "Floor", n, err, 3, api.OK)
		wire.Cost(s, picks)
		wire.Pull(s, picks)
		wire.Check(s)
		if !sameScaling(s, wasScaling) || !slices.Equal(picks, wasPicks) || !slices.Equal(pieces, wasPieces) {
			t.Fatal("an argument was changed")
		}
		clear(best) // must not matter to the second round
		clear(lots)
		clear(list)
	}
}

// TestShared is rule R5 for slices with room behind them: what lies there stays.
func TestShared(t *testing.T) {
	pieces := []int{3, 3, 4, 7, 77}
	wire.Coils(pieces[:4], 10)
	wire.Floor(pieces[:4], 10)
	s := spinet()
	gauges := append(s.Gauges, 77)
	s.Gauges = gauges[:3]
	picks := []api.Pick{{}, {}, {}, {Metal: 7}}
	wire.Needs(s, picks[:3], 5)
	wire.Best(s)
	if pieces[4] != 77 || gauges[3] != 77 || picks[3].Metal != 7 {
		t.Error("memory behind an argument was changed")
	}
}

// TestNilAndEmpty is rule R4.
func TestNilAndEmpty(t *testing.T) {
	for _, empty := range []api.Scaling{{}, {Courses: []api.Course{}, Metals: []api.Metal{}, Gauges: []int{}}} {
		wantInt(t, "Check", 0, wire.Check(empty), 0, api.ErrArg)
	}
	for _, picks := range [][]api.Pick{nil, {}} {
		n, err := wire.Cost(spinet(), picks)
		wantInt(t, "Cost", n, err, 0, api.ErrForm)
	}
	for _, pieces := range [][]int{nil, {}} {
		list, n, err := wire.Coils(pieces, 10)
		wantList(t, "Coils", list, err, nil, api.OK)
		wantInt(t, "Coils", n, err, 0, api.OK)
		n, err = wire.Floor(pieces, 10)
		wantInt(t, "Floor", n, err, 0, api.OK)
	}
}
