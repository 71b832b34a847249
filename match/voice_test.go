package match_test

import (
	"math"
	"slices"
	"testing"

	"clavecin/api"
	"clavecin/match"
)

func TestTable(t *testing.T) {
	jacks := []api.Jack{{Want: 10, Reach: 5}, {Want: 20, Reach: 8}}
	quills := []api.Quill{{Stiff: 19, Length: 9}, {Stiff: 12, Length: 6}, {Stiff: 20, Length: 8}}
	for _, c := range []struct {
		bend, trim int
		want       [][]int
	}{
		{2, 3, [][]int{{30, 7, 29}, {5, -1, 0}}},
		{0, 0, [][]int{{0, 0, 0}, {0, -1, 0}}},
		{1, 0, [][]int{{9, 2, 10}, {1, -1, 0}}},
		{0, 1, [][]int{{4, 1, 3}, {1, -1, 0}}},
		{100, 100, [][]int{{1300, 300, 1300}, {200, -1, 0}}},
	} {
		table, err := match.Table(jacks, quills, c.bend, c.trim)
		if err != api.OK || !sameTable(table, c.want) {
			t.Errorf("Table with %d and %d: %v, error %d, want %v", c.bend, c.trim, table, err, c.want)
		}
	}
	table, err := match.Table([]api.Jack{{Want: 10000, Reach: 0}}, []api.Quill{{Stiff: 0, Length: 10000}, {Stiff: 10000, Length: 0}}, 100, 100)
	if err != api.OK || !sameTable(table, [][]int{{2000000, 0}}) {
		t.Errorf("Table of the greatest sizes: %v, error %d", table, err)
	}
	table, err = match.Table([]api.Jack{{Want: 0, Reach: 10000}}, []api.Quill{{Stiff: 10000, Length: 9999}, {Stiff: 10000, Length: 10000}}, 100, 100)
	if err != api.OK || !sameTable(table, [][]int{{-1, 1000000}}) {
		t.Errorf("Table of the greatest reach: %v, error %d", table, err)
	}
}

// shop is what Table and Voice are given.
type shop struct {
	jacks      []api.Jack
	quills     []api.Quill
	bend, trim int
}

// faultyShops returns shops that Table does not take; in some of them no quill is long enough, either.
func faultyShops() []shop {
	jacks, quills := slices.Repeat([]api.Jack{{Want: 5, Reach: 5}}, 65), slices.Repeat([]api.Quill{{Stiff: 5, Length: 5}}, 65)
	long := []api.Jack{{Want: 5, Reach: 6}}
	shops := []shop{{long, quills[:1], 101, 1}, {long, quills[:1], 1, -1}, {nil, nil, 1, 1}, {nil, quills[:1], 1, 1}, {jacks[:1], nil, 1, 1}, {jacks[:2], quills[:1], 1, 1}, {jacks[:64], quills[:63], 1, 1},
		{jacks[:64], quills, 1, 1}, {jacks, quills, 1, 1}, {jacks, quills[:64], 1, 1}, {jacks[:1], quills, 1, 1}}
	for _, bad := range []int{-1, 101, math.MinInt, math.MaxInt} {
		shops = append(shops, shop{jacks[:2], quills[:3], bad, 1}, shop{jacks[:2], quills[:3], 1, bad})
	}
	for _, bad := range []int{-1, 10001, math.MinInt, math.MaxInt} {
		for _, jack := range []api.Jack{{Want: bad, Reach: 5}, {Want: 5, Reach: bad}} {
			shops = append(shops, shop{[]api.Jack{{}, jack}, quills[:3], 1, 1}, shop{[]api.Jack{jack, {}}, quills[:3], 1, 1})
		}
		for _, quill := range []api.Quill{{Stiff: bad, Length: 5}, {Stiff: 5, Length: bad}} {
			shops = append(shops, shop{jacks[:2], []api.Quill{{}, {}, quill}, 1, 1}, shop{jacks[:2], []api.Quill{quill, {}, {}}, 1, 1})
		}
	}
	return shops
}

func TestFaultyShops(t *testing.T) {
	for _, s := range faultyShops() {
		table, err := match.Table(s.jacks, s.quills, s.bend, s.trim)
		if len(table) != 0 || err != api.ErrArg {
			t.Errorf("Table(%v): %v, error %d", s, table, err)
		}
		quills, offs, cost, err := match.Voice(s.jacks, s.quills, s.bend, s.trim)
		wantVoice(t, quills, offs, cost, err, nil, nil, 0, api.ErrArg)
	}
}

// wantVoice tests what Voice returns against what is right.
func wantVoice(t *testing.T, quills, offs []int, cost int, err api.Errno, wantQuills, wantOffs []int, wantCost int, wantErr api.Errno) {
	t.Helper()
	wantList(t, "the quills of Voice", quills, err, wantQuills, wantErr)
	wantList(t, "the lengths of Voice", offs, err, wantOffs, wantErr)
	wantInt(t, "the cost of Voice", cost, err, wantCost, wantErr)
}

func TestVoice(t *testing.T) {
	jacks := []api.Jack{{Want: 10, Reach: 5}, {Want: 20, Reach: 8}}
	for _, c := range []struct {
		quills     []api.Quill
		bend, trim int
		to, offs   []int
		cost       int
		err        api.Errno
	}{
		{[]api.Quill{{Stiff: 19, Length: 9}, {Stiff: 12, Length: 6}}, 2, 3, []int{1, 0}, []int{1, 1}, 12, api.OK},
		{[]api.Quill{{Stiff: 10, Length: 5}, {Stiff: 20, Length: 8}}, 100, 100, []int{0, 1}, []int{0, 0}, 0, api.OK},
		{[]api.Quill{{Stiff: 10, Length: 8}, {Stiff: 20, Length: 8}}, 0, 0, []int{0, 1}, []int{3, 0}, 0, api.OK},
		{[]api.Quill{{Stiff: 10, Length: 8}, {Stiff: 20, Length: 7}}, 0, 0, []int{1, 0}, []int{2, 0}, 0, api.OK},
		{[]api.Quill{{Stiff: 10, Length: 4}, {Stiff: 10, Length: 9}, {Stiff: 20, Length: 9}, {Stiff: 11, Length: 5}}, 1, 1, []int{3, 2}, []int{0, 1}, 2, api.OK},
		{[]api.Quill{{Stiff: 10, Length: 7}, {Stiff: 20, Length: 7}, {Stiff: 20, Length: 7}}, 1, 1, nil, nil, 0, api.ErrNone}, // none is long enough for the second jack
		{[]api.Quill{{Stiff: 10, Length: 4}, {Stiff: 20, Length: 9}}, 1, 1, nil, nil, 0, api.ErrNone},                         // both would need the same one
	} {
		to, offs, cost, err := match.Voice(jacks, c.quills, c.bend, c.trim)
		wantVoice(t, to, offs, cost, err, c.to, c.offs, c.cost, c.err)
	}
}

// TestVoiceOfAll compares with all ways of giving out the quills.
func TestVoiceOfAll(t *testing.T) {
	r := newRand()
	for range 1500 {
		s := shop{bend: between(r, 0, 3), trim: between(r, 0, 3)}
		for range between(r, 1, 5) {
			s.jacks = append(s.jacks, api.Jack{Want: between(r, 0, 9), Reach: between(r, 0, 9)})
		}
		for range len(s.jacks) + r.Intn(3) {
			s.quills = append(s.quills, api.Quill{Stiff: between(r, 0, 9), Length: between(r, 3, 12)})
		}
		want := tryAll(tableOf(s))
		wantErr := api.OK
		var wantOffs []int
		if !want.found {
			wantErr = api.ErrNone
		}
		for i, k := range want.to {
			wantOffs = append(wantOffs, s.quills[k].Length-s.jacks[i].Reach)
		}
		table, err := match.Table(s.jacks, s.quills, s.bend, s.trim)
		if err != api.OK || !sameTable(table, tableOf(s)) {
			t.Fatalf("Table(%v): %v, error %d, want %v", s, table, err, tableOf(s))
		}
		to, offs, cost, err := match.Voice(s.jacks, s.quills, s.bend, s.trim)
		wantVoice(t, to, offs, cost, err, want.to, wantOffs, want.cost, wantErr)
	}
}

// tableOf is the document's definition of what a quill costs in a jack.
func tableOf(s shop) [][]int {
	table := filled(len(s.jacks), len(s.quills), no)
	for i, jack := range s.jacks {
		for k, quill := range s.quills {
			if quill.Length >= jack.Reach {
				off := math.Abs(float64(quill.Stiff - jack.Want))
				table[i][k] = int(off)*s.bend + (quill.Length-jack.Reach)*s.trim
			}
		}
	}
	return table
}

// TestVoiceGreatest is the greatest shop.
func TestVoiceGreatest(t *testing.T) {
	s := shop{bend: 100, trim: 100}
	var want []int
	for i := range 64 {
		s.jacks = append(s.jacks, api.Jack{Want: 10000 - 100*i, Reach: 10000 - 150*i})
		s.quills = append(s.quills, api.Quill{Stiff: 100 * (i + 37), Length: 10000 - 150*(63-i)})
		want = append(want, 63-i)
	}
	to, offs, cost, err := match.Voice(s.jacks, s.quills, s.bend, s.trim)
	wantVoice(t, to, offs, cost, err, want, make([]int, 64), 0, api.OK)
}
