package match_test

import (
	"slices"
	"testing"

	"clavecin/api"
	"clavecin/match"
)

// TestArgumentsStay is rules R5 and R6: arguments stay as they are, and results are new memory.
func TestArgumentsStay(t *testing.T) {
	table := [][]int{{3, 1, 2, 9}, {1, -1, 1, 5}, {0, 1, 7, 1}}
	stuck := [][]int{{3, 1, 2, 9}, {-1, 1, -1, -1}, {-1, 7, -1, -1}}
	wasTable, wasStuck := copyTable(table), copyTable(stuck)
	want := tryAll(table)
	for range 2 {
		m, err := match.Best(table)
		wantList(t, "Best", m.To, err, want.to, api.OK)
		wantBest(t, table, want)
		was := api.Matching{To: slices.Clone(m.To), Rows: slices.Clone(m.Rows), Cols: slices.Clone(m.Cols), Cost: m.Cost}
		ok, err := match.Proves(table, m)
		wantBool(t, "Proves", ok, err, true, api.OK)
		n, err := match.Total(table, m.To)
		wantInt(t, "Total", n, err, want.cost, api.OK)
		if !slices.Equal(m.To, was.To) || !slices.Equal(m.Rows, was.Rows) || !slices.Equal(m.Cols, was.Cols) {
			t.Fatal("a matching was changed")
		}
		for row := range table {
			n, err = match.Without(table, row)
			wantInt(t, "Without", n, err, tryAll(slices.Delete(copyTable(table), row, row+1)).cost, api.OK)
		}
		rows, err := match.Hall(stuck)
		wantList(t, "Hall", rows, err, []int{1, 2}, api.OK)
		match.Most(stuck)
		match.Check(table)
		if !sameTable(table, wasTable) || !sameTable(stuck, wasStuck) {
			t.Fatal("a table was changed")
		}
		for _, list := range [][]int{m.To, m.Rows, m.Cols, rows} { // must not matter to the second round
			clear(list[:cap(list)])
		}
	}
}

// TestShared is rule R5 for slices with room behind them: what lies there stays, and parts of one result share nothing.
func TestShared(t *testing.T) {
	rows := [][]int{{1, 2, 77}, {3, 4, 77}, {5, 6, 77}}
	table := [][]int{rows[0][:2], rows[1][:2], rows[2][:2]}
	match.Best(table[:2])
	match.Without(table[:2], 0)
	match.Hall(table[:2])
	if !sameTable(rows, [][]int{{1, 2, 77}, {3, 4, 77}, {5, 6, 77}}) || !sameTable(table, [][]int{{1, 2}, {3, 4}, {5, 6}}) {
		t.Error("memory behind an argument was changed")
	}
	jacks, quills := []api.Jack{{Want: 1, Reach: 1}, {Want: 2, Reach: 2}}, []api.Quill{{Stiff: 1, Length: 1}, {Stiff: 2, Length: 2}}
	made, err := match.Table(jacks, quills, 1, 1)
	if err != api.OK || !sameTable(made, [][]int{{0, 2}, {-1, 0}}) {
		t.Fatalf("Table: %v, error %d", made, err)
	}
	made[0] = append(made[0][:1], 5, 5, 5)
	if !slices.Equal(made[1], []int{-1, 0}) {
		t.Error("two rows of a table share memory")
	}
	to, offs, _, err := match.Voice(jacks, quills, 1, 1)
	wantList(t, "Voice", to, err, []int{0, 1}, api.OK)
	clear(to[:cap(to)])
	wantList(t, "Voice", offs, err, []int{0, 0}, api.OK)
	again, _, _, err := match.Voice(jacks, quills, 1, 1)
	wantList(t, "Voice", again, err, []int{0, 1}, api.OK)
	if jacks[1] != (api.Jack{Want: 2, Reach: 2}) || quills[1] != (api.Quill{Stiff: 2, Length: 2}) {
		t.Error("an argument was changed")
	}
}

// TestSameRows: a table may have one slice as several rows.
func TestSameRows(t *testing.T) {
	row := []int{1, 1, 2}
	table := [][]int{row, row, row}
	wantBest(t, table, solution{true, 4, []int{0, 1, 2}})
	rows, err := match.Hall([][]int{{-1, -1, 1}, row, {-1, -1, 1}})
	wantList(t, "Hall", rows, err, []int{0, 2}, api.OK)
}

// TestNilAndEmpty is rule R4.
func TestNilAndEmpty(t *testing.T) {
	for _, empty := range [][]int{nil, {}} {
		for _, table := range [][][]int{nil, {}, {empty}, {empty, empty}} {
			wantInt(t, "Check", 0, match.Check(table), 0, api.ErrArg)
		}
		n, err := match.Total([][]int{{1}}, empty)
		wantInt(t, "Total", n, err, 0, api.ErrForm)
		ok, err := match.Proves([][]int{{1}}, api.Matching{To: []int{0}, Rows: []int{1}, Cols: empty, Cost: 1})
		wantBool(t, "Proves", ok, err, false, api.ErrForm)
	}
	for _, jacks := range [][]api.Jack{nil, {}} {
		table, err := match.Table(jacks, []api.Quill{}, 1, 1)
		wantInt(t, "Table", len(table), err, 0, api.ErrArg)
	}
}
