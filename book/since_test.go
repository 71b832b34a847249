package book_test

import (
	"math"
	"math/rand"
	"slices"
	"testing"

	"clavecin/api"
	"clavecin/book"
)

func TestPostSince(t *testing.T) {
	entries := []string{"outside store plank 9", "outside store wire 9  outside case nail 9", "store bench plank 4"}
	for _, c := range []struct {
		mark  int
		reads string
		entry string
		want  api.Errno
	}{
		{3, "", "store bench plank 1", api.OK},
		{3, "store plank 5 bench plank 4 outside plank -9", "store bench plank 1", api.OK},
		{2, "", "store bench wire 1", api.OK},
		{2, "store wire 9 case nail 9 case plank 0 nobody plank 0 plank store 0", "store bench wire 1", api.OK},
		// Entries since the mark have what was read.
		{2, "store plank 5", "store bench wire 1", api.ErrStale},
		{2, "bench plank 4", "store bench wire 1", api.ErrStale},
		{2, "case nail 9 bench plank 4", "store bench wire 1", api.ErrStale},
		{1, "case nail 9", "outx bench plum 1", api.ErrStale},
		{1, "store wire 9", "outx case plank 1", api.ErrStale},
		{1, "outside wire -9", "outx case plank 1", api.ErrStale},
		{0, "outside plank -9", "outx case plank 1", api.ErrStale},
		{1, "outside plank -9", "outx case plank 1", api.OK},
		{0, "nobody plank 0", "outx case plank 1", api.OK},
		// They have what is to be moved.
		{2, "", "store case plank 1", api.ErrStale},
		{2, "", "outx store plank 1", api.ErrStale},
		{2, "", "bench case plank 1", api.ErrStale},
		{2, "", "outx bench plank 1", api.ErrStale},
		{2, "", "store case wire 1  outx bench plank 1", api.ErrStale},
		{2, "", "outx case plank 1", api.OK},
		{0, "", "outx case plank 1", api.OK},
		{1, "", "outside case nail 1", api.ErrStale},
		{2, "", "outside case nail 1", api.OK},
		{1, "", "case bench nail 1", api.ErrStale},
		{2, "", "case bench nail 1", api.OK},
		{0, "", "outside case plank 1", api.ErrStale},
		{1, "", "outside case plank 1", api.OK},
		// ErrStale comes before ErrStock.
		{2, "", "store case plank 999", api.ErrStale},
		{3, "", "store case plank 999", api.ErrStock},
		{2, "store plank 5", "case outx wire 1", api.ErrStale},
		{2, "store nail 5", "case outx wire 1", api.ErrStock},
	} {
		b, d := newBook(t, entries...)
		m := modelOf(entries...)
		if c.want != api.OK {
			wantRefused(t, b, d, m, func() []refused {
				return []refused{{"PostSince " + c.entry, b.PostSince(c.mark, lots(c.reads), moves(c.entry)), c.want}}
			})
			continue
		}
		wantErr(t, "PostSince "+c.entry, b.PostSince(c.mark, lots(c.reads), moves(c.entry)), api.OK)
		m.add(moves(c.entry))
		wantBook(t, "PostSince", b, m)
		wantBook(t, "opened again", wantOpen(t, d), m)
	}
}

func TestBadPostSince(t *testing.T) {
	b, d := newBook(t, "outside store plank 5", "outside store plank 5")
	m := modelOf("outside store plank 5", "outside store plank 5")
	good := moves("store bench plank 1")
	read := api.Lot{Account: "nobody", Item: "nothing"}
	for _, entry := range [][]api.Move{good, moves("store bench plank 999")} { // ErrArg comes before ErrStock
		wantRefused(t, b, d, m, func() []refused {
			var list []refused
			for _, mark := range []int{-1, 3, math.MinInt, math.MaxInt} {
				list = append(list, refused{"the mark", b.PostSince(mark, nil, entry), api.ErrArg})
			}
			for _, n := range []int{65, 66, 1000} {
				list = append(list, refused{"too many reads", b.PostSince(2, slices.Repeat([]api.Lot{read}, n), entry), api.ErrArg})
			}
			for _, name := range badNames() {
				for _, bad := range []api.Lot{{Account: name, Item: "plank"}, {Account: "store", Item: name}, {Account: name, Item: name, Qty: 5}} {
					list = append(list, refused{"a read", b.PostSince(2, []api.Lot{bad}, entry), api.ErrArg},
						refused{"a read", b.PostSince(0, []api.Lot{read, read, bad}, entry), api.ErrArg}) // and before ErrStale
				}
			}
			return list
		})
	}
	reads := slices.Repeat([]api.Lot{read}, 63)
	reads = append(reads, api.Lot{Account: "store", Item: "plank", Qty: math.MinInt}) // which is not looked at
	wantErr(t, "PostSince with the last read stale", b.PostSince(1, reads, moves("outx bench nail 1")), api.ErrStale)
	wantErr(t, "PostSince with 64 reads", b.PostSince(2, reads, good), api.OK)
	m.add(good)
	wantBook(t, "PostSince", b, m)
}

func TestPostSinceRange(t *testing.T) {
	b, _ := newBook(t)
	fill(t, b, "outa", "a", "x", most)
	wantErr(t, "PostSince", b.PostSince(b.Count(), nil, moves("outb a x 1")), api.ErrRange)
	wantErr(t, "PostSince", b.PostSince(b.Count(), nil, moves("outb a x 1  c d x 1")), api.ErrRange)
	wantErr(t, "PostSince", b.PostSince(b.Count()-1, nil, moves("outb a x 1  c d x 1")), api.ErrStale)
}

// isStale tells whether an entry since a mark has what was read or what is to be moved, word for word.
func (m *model) isStale(mark int, reads []api.Lot, entry []api.Move) bool {
	for _, x := range slices.Concat(m.entries[mark:]...) {
		for _, account := range []string{x.From, x.To} {
			for _, read := range reads {
				if read.Account == account && read.Item == x.Item {
					return true
				}
			}
			for _, y := range entry {
				if y.Item == x.Item && (y.From == account || y.To == account) {
					return true
				}
			}
		}
	}
	return false
}

// A clerk reads balances at a mark and posts later.
type clerk struct {
	mark  int
	reads []api.Lot
}

func newClerk(r *rand.Rand, b *book.Book) clerk {
	c := clerk{mark: b.Count()}
	for range r.Intn(3) {
		x := anyEntry(r)[0]
		c.reads = append(c.reads, api.Lot{Account: x.From, Item: x.Item, Qty: b.Balance(x.From, x.Item)})
	}
	return c
}

// TestClerks is promise K5: what the clerks read was still true when they posted, and the entries have the same effect one after the other.
func TestClerks(t *testing.T) {
	r := newRand()
	accepted, stale := 0, 0
	for range 150 {
		b, d := newBook(t, "outside store plank 50  outside bench s0 50", "outside store s0 50  outside case9 plank 50")
		m := modelOf("outside store plank 50  outside bench s0 50", "outside store s0 50  outside case9 plank 50")
		clerks := []clerk{newClerk(r, b), newClerk(r, b), newClerk(r, b)}
		for range 30 {
			i := r.Intn(len(clerks))
			c, entry := clerks[i], anyEntry(r)[:1]
			want := m.would(entry)
			if m.isStale(c.mark, c.reads, entry) {
				want = api.ErrStale
				stale++
			}
			stillTrue := !slices.ContainsFunc(c.reads, func(l api.Lot) bool { return b.Balance(l.Account, l.Item) != l.Qty })
			wantErr(t, "PostSince", b.PostSince(c.mark, c.reads, entry), want)
			if want == api.OK {
				accepted++
				m.add(entry)
				if !stillTrue {
					t.Errorf("%v was accepted, though %v is not true any more", entry, c.reads)
				}
			}
			clerks[i] = newClerk(r, b)
		}
		wantBook(t, "clerks", b, m)
		again, _ := newBook(t)
		for _, entry := range m.entries {
			wantErr(t, "Post", again.Post(entry), api.OK)
		}
		wantBook(t, "one after the other", again, m)
		wantBook(t, "opened again", wantOpen(t, d), m)
	}
	if accepted < 100 || stale < 100 {
		t.Errorf("only %d were accepted and %d stale", accepted, stale)
	}
}
