package panel_test

import (
	"math"
	"math/big"
	"slices"
	"testing"

	"clavecin/api"
	"clavecin/panel"
)

func TestCheck(t *testing.T) {
	for _, b := range faulty() {
		wantInt(t, "Check", 0, panel.Check(b.w, b.h, b.kerf, b.shapes), 0, api.ErrArg)
	}
	for _, b := range []board{
		twoPieces(), oneTurned(), noRest(), newBoard(1, 1, 0), newBoard(64, 64, 8), newBoard(1, 64, 8), newBoard(64, 1, 0),
		newBoard(1, 1, 8, fixed(64, 64, 1000000), turning(1, 1, 0)), newBoard(1, 1, 0, slices.Repeat([]api.Shape{fixed(1, 64, 1)}, 16)...),
	} {
		wantInt(t, "Check", 0, panel.Check(b.w, b.h, b.kerf, b.shapes), 0, api.OK)
	}
}

// TestFaulty: with a panel that is not valid every function returns ErrArg, whatever else it is given.
func TestFaulty(t *testing.T) {
	for _, b := range faulty() {
		table, err := b.table()
		wantInt(t, "Table", len(table), err, 0, api.ErrArg)
		plan, n, err := b.best()
		wantList(t, "Best", plan, err, nil, api.ErrArg)
		wantInt(t, "Best", n, err, 0, api.ErrArg)
		for _, plan := range [][]api.Cut{nil, planOf(waste()), planOf(shape(0)), planOf(turn(5)), planOf(across(0)), planOf(across(2), shape(0), shape(0)), planOf(down(9))} {
			wantRefused(t, b, plan, api.ErrArg)
		}
		n, err = b.ceiling()
		wantInt(t, "Ceiling", n, err, 0, api.ErrArg)
		for _, wants := range [][]int{nil, {-1}, make([]int, len(b.shapes)), slices.Repeat([]int{1}, len(b.shapes)), slices.Repeat([]int{1}, len(b.shapes)+1)} {
			n, err = b.sheets(wants...)
			wantInt(t, "Sheets", n, err, 0, api.ErrArg)
		}
	}
}

func TestCeiling(t *testing.T) {
	for _, c := range []struct {
		b    board
		want int
	}{
		{twoPieces(), 25},
		{oneTurned(), 7},
		{noRest(), 10},
		{newBoard(4, 4, 0), 0},
		{newBoard(3, 2, 0, fixed(2, 3, 7)), 0}, // fits only if it is turned
		{newBoard(3, 2, 0, turning(2, 3, 7), fixed(4, 1, 100), fixed(1, 3, 100)), 7}, // the other ones do not fit at all
		{newBoard(3, 2, 0, turning(4, 1, 100), turning(1, 4, 100)), 0},
		{newBoard(7, 7, 8, fixed(2, 2, 3), fixed(3, 3, 7)), 38}, // 147/4 and 343/9, whose integer part is 38
		{newBoard(7, 7, 8, fixed(3, 3, 7), fixed(2, 2, 3)), 38},
		{newBoard(7, 7, 0, fixed(7, 7, 9), fixed(1, 1, 0)), 9},
		{newBoard(5, 5, 0, fixed(5, 5, 0)), 0},
		{newBoard(2, 2, 0, fixed(2, 1, 999999), fixed(1, 1, 499999)), 1999998},
		{newBoard(64, 64, 0, fixed(1, 1, 1000000)), 4096000000},
		{newBoard(64, 64, 0, fixed(63, 61, 1000000)), 1065833},
	} {
		n, err := c.b.ceiling()
		wantInt(t, "Ceiling", n, err, c.want, api.OK)
	}
}

// TestCeilingIsWhatItSays compares with fractions of any size, and is promise B5.
func TestCeilingIsWhatItSays(t *testing.T) {
	r := newRand()
	for range 500 {
		b := anyBoard(r)
		want := new(big.Int)
		for _, s := range b.shapes {
			if s.W <= b.w && s.H <= b.h || s.Turn && s.W <= b.h && s.H <= b.w {
				q := new(big.Int).Div(big.NewInt(int64(b.w)*int64(b.h)*int64(s.Value)), big.NewInt(int64(s.W)*int64(s.H)))
				if q.Cmp(want) > 0 {
					want = q
				}
			}
		}
		n, err := b.ceiling()
		wantInt(t, "Ceiling", n, err, int(want.Int64()), api.OK)
	}
	for range 100 {
		b := anyBoard(r)
		n, err := b.ceiling()
		if _, value, _ := b.best(); value > n || err != api.OK {
			t.Errorf("%v: Best %d is above Ceiling %d, error %d", b, value, n, err)
		}
	}
}

func TestSheets(t *testing.T) {
	three := newBoard(5, 3, 1, fixed(2, 3, 10), turning(3, 5, 0), fixed(3, 5, 1)) // the last one does not fit
	all := slices.Repeat([]int{1000000}, 16)
	for _, c := range []struct {
		b     board
		wants []int
		want  int
		err   api.Errno
	}{
		{twoPieces(), []int{6}, 3, api.OK}, // 36 of 15
		{twoPieces(), []int{5}, 2, api.OK}, // 30 of 15
		{twoPieces(), []int{1}, 1, api.OK},
		{twoPieces(), []int{0}, 0, api.OK},
		{twoPieces(), []int{1000000}, 400000, api.OK},
		{newBoard(4, 4, 0), nil, 0, api.OK},
		{three, []int{0, 0, 0}, 0, api.OK},
		{three, []int{1, 1, 0}, 2, api.OK},
		{three, []int{5, 3, 0}, 5, api.OK},
		{three, []int{1, 1, 1}, 0, api.ErrNone},
		{three, []int{0, 0, 1000000}, 0, api.ErrNone},
		{oneTurned(), []int{7}, 7, api.OK},
		{newBoard(3, 2, 0, fixed(2, 3, 7)), []int{1}, 0, api.ErrNone},
		{newBoard(3, 2, 0, turning(1, 4, 7)), []int{1}, 0, api.ErrNone},
		{newBoard(64, 64, 8, slices.Repeat([]api.Shape{fixed(64, 64, 0)}, 16)...), all, 16000000, api.OK},
		{newBoard(1, 1, 8, slices.Repeat([]api.Shape{turning(1, 1, 0)}, 16)...), all, 16000000, api.OK},
		{newBoard(64, 63, 8, slices.Repeat([]api.Shape{turning(63, 64, 0)}, 16)...), all, 16000000, api.OK},
	} {
		n, err := c.b.sheets(c.wants...)
		wantInt(t, "Sheets", n, err, c.want, c.err)
	}
}

// TestBadWants: wants that are not valid are named before shapes that do not fit.
func TestBadWants(t *testing.T) {
	b := newBoard(5, 3, 1, fixed(6, 3, 10), fixed(2, 3, 10))
	for _, wants := range [][]int{nil, {}, {0}, {1}, {0, 0, 0}, {1, 1, 1}, {-1, 0}, {0, -1}, {1, -1}, {1000001, 0}, {0, 1000001}, {1, 1000001},
		{1, math.MaxInt}, {1, math.MinInt}, {math.MinInt, 1}} {
		n, err := b.sheets(wants...)
		wantInt(t, "Sheets", n, err, 0, api.ErrArg)
	}
	for _, wants := range [][]int{{1, 0}, {1, 1}, {1000000, 1000000}} {
		n, err := b.sheets(wants...)
		wantInt(t, "Sheets", n, err, 0, api.ErrNone)
	}
	n, err := newBoard(5, 3, 1).sheets(0)
	wantInt(t, "Sheets", n, err, 0, api.ErrArg)
}

// TestSheetsIsABound: what some panels give can be had from as many.
func TestSheetsIsABound(t *testing.T) {
	r := newRand()
	for range 200 {
		b := anyBoard(r)
		wants := make([]int, len(b.shapes))
		count := between(r, 1, 5)
		for range count {
			counts, _ := b.counts(b.anyPlan(r, b.w, b.h))
			for i, n := range counts {
				wants[i] += n
			}
		}
		if n, err := b.sheets(wants...); n > count || err != api.OK {
			t.Errorf("Sheets of %v for %v: %d, error %d, but %d are enough", b, wants, n, err, count)
		}
	}
}
